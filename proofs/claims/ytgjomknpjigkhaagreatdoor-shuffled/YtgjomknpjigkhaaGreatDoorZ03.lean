import Derived.Test.YtgjomknpjigkhaaGreatDoorZ02
import Derived.RangeFuncNested
import Derived.RangeFuncBound
import Derived.RangeFuncCalls
import Derived.RangeFuncLeaves
import Derived.Shelf.Abstract
import Derived.Shelf.RegionOpen
import Derived.OwnWalkIn
import Derived.TacticsInMore
import Derived.LoopNIn
import Derived.LoopIn
import Derived.OrdersIn
namespace Go.Proofs.YtgjomknpjigkhaaGreatDoor
open Go.Proofs.Tryz
set_option maxRecDepth 100000
set_option maxHeartbeats 4000000
section
open Go.RowKit
theorem Xw (x y z:Value) (w:World):(Instr.field 228 (.agg #[x,y,z]) 0).run prog w=.ok x w:=by
 simp [Instr.field,run_underlying underlying228,asAgg,Rr]
theorem Xv (x y z:Value) (w:World):(Instr.field 228 (.agg #[x,y,z]) 1).run prog w=.ok y w:=by
 simp [Instr.field,run_underlying underlying228,asAgg,Rq]
theorem Xu (x y z:Value) (w:World):(Instr.field 228 (.agg #[x,y,z]) 2).run prog w=.ok z w:=by
 simp [Instr.field,run_underlying underlying228,asAgg,Rp]
attribute [local go_sem] Xw Xv Xu
theorem Qm {w:World} {B:SB} {S:ST} (h:Aj w B S) (f:Int) (hf:f≤1) :
  Calls prog 206 #[.pointer (some ⟨B.b,0,none⟩),.int .i64 f] w fun e w'=>e=.returned (.int .i64 S.order.length)∧∃ n,w' = w.drewN n:=by
 have c0:=h.head.cell 0;simp at c0;go_in
 go_wp2
 go_ret
 exact ⟨rfl,0,rfl⟩
theorem WN {w:World} {B:SB} {S:ST} (h:Aj w B S) (f:Int) (hf:1<f) (v l r p:Int) (hg:DD S.N f=some (v,l,r)) (hv:0≤v) (hv2:v<S.place.length) (hp:S.place[v.toNat]?=some p) :
  Calls prog 206 #[.pointer (some ⟨B.b,0,none⟩),.int .i64 f] w fun e w'=>e=.returned (.int .i64 p)∧∃ n,w' = w.drewN n:=by
 have c1:=h.head.cell 1;have c2:=h.head.cell 2;simp at c1 c2;have hl:∀ n,(Instr.lookup 209 (.map (some B.rn)) (.int .i64 f) false).run prog (w.drewN n)=.ok (.agg #[.int .i64 v,.int .i64 l,.int .i64 r]) (w.drewN n):=by
  intro n;have:=EM (P:=prog) underlying209 In (z:=.agg #[.int .i64 0,.int .i64 0,.int .i64 0]) XI (h.drewN n).nodes f false;rw [hg] at this;exact this
 have hc:w.cell? ⟨B.bp,v.toNat,none⟩=some (.int .i64 p):=h.place.cell hp;go_in
 go_wp2
 go_quiet (fail)
 go_wp2
 go_ret
 exact ⟨rfl,_,rfl⟩
theorem UR {w:World} {B:SB} {S:ST} (h:Aj w B S) (hw:WF S) (f:Int) (hf:S.ok f) :
  Calls prog 206 #[.pointer (some ⟨B.b,0,none⟩),.int .i64 f] w fun e w'=>e=.returned (.int .i64 (S.lev f))∧∃ n,w' = w.drewN n:=by
 rcases hf with rfl | rfl | ⟨h2,⟨v,l,r⟩,ht⟩
 ·rw [Eu (by omega)];exact Qm h 0 (by omega)
 ·rw [Eu (by omega)];exact Qm h 1 (by omega)
 ·obtain ⟨_,_,v0,v1,_⟩:=hw.node f v l r ht;have hp:=hw.pl_range v0 v1;rw [Cw hw ht];exact WN h f (by omega) v l r _ ht v0 (by rw [hw.ord.len];exact v1) hp.2.2.2
theorem mH {w:World} {B:SB} {S:ST} (h:Aj w B S) {f:Int} {t:GK} (hg:DD S.N f=some t) (n:Nat) :
  (Instr.lookup 209 (.map (some B.rn)) (.int .i64 f) false).run prog (w.drewN n)=.ok (.agg #[.int .i64 t.1,.int .i64 t.2.1,.int .i64 t.2.2]) (w.drewN n):=by
 have:=EM (P:=prog) underlying209 In (z:=.agg #[.int .i64 0,.int .i64 0,.int .i64 0]) XI (h.drewN n).nodes f false;rw [hg] at this;exact this
theorem look71' {w:World} {B:SB} {S:ST} (h:Aj w B S) {f:Int} {t:GK} (hg:DD S.N f=some t) :
  (Instr.lookup 209 (.map (some B.rn)) (.int .i64 f) false).run prog w=.ok (.agg #[.int .i64 t.1,.int .i64 t.2.1,.int .i64 t.2.2]) w:=mH h hg 0
theorem Vk {w:World} (p:Value) (f u:Int) (hf:f≤1) :
  Calls prog 259 #[p,.int .i64 f,.int .i64 u] w fun e w'=>e=.returned (.bool false)∧w' = w:=by
 have hd:decide (1<f)=false:=by simp;omega
 go_in
 go_wp2
 go_ret
 exact ⟨rfl,rfl⟩
theorem NE {w:World} {B:SB} {S:ST} (h:Aj w B S) (f u:Int) (hf:1<f) (v l r:Int) (hg:DD S.N f=some (v,l,r)) :
  Calls prog 259 #[.pointer (some ⟨B.b,0,none⟩),.int .i64 f,.int .i64 u] w fun e w'=>e=.returned (.bool (v == u))∧w' = w:=by
 have c2:=h.head.cell 2;simp at c2;have hl:=look71' h hg;have hd:decide (1<f)=true:=by simp;omega
 go_in
 go_wp2
 go_ret
 exact ⟨rfl,rfl⟩
end
section
open Go.RowKit
attribute [local go_sem] Xw Xv Xu
theorem QS {w:World} (p:Value) (f u:Int) (hf:f≤1) :
  Calls prog 207 #[p,.int .i64 f,.int .i64 u] w fun e w'=>e=.returned (.tuple #[.int .i64 f,.int .i64 f])∧AA [] w w':=by
 go_in
 go_wp2_with (go_at_call 259;refine (Vk p f u hf).mono ?_;rintro e w' ⟨rfl,rfl⟩)
 go_ret2
 exact ⟨rfl,AA.refl _ _⟩
theorem aG {w:World} {B:SB} {S:ST} (h:Aj w B S) (f u:Int) (hf:1<f) (v l r:Int) (hg:DD S.N f=some (v,l,r)) (hv:(v == u)=false) :
  Calls prog 207 #[.pointer (some ⟨B.b,0,none⟩),.int .i64 f,.int .i64 u] w fun e w'=>e=.returned (.tuple #[.int .i64 f,.int .i64 f])∧AA [] w w':=by
 go_in
 go_wp2_with (go_at_call 259;refine (NE h f u hf v l r hg).mono ?_;rintro e w' ⟨rfl,rfl⟩)
 go_ret2
 exact ⟨rfl,AA.refl _ _⟩
theorem YW {w:World} {B:SB} {S:ST} (h:Aj w B S) (f u:Int) (hf:1<f) (v l r:Int) (hg:DD S.N f=some (v,l,r)) (hv:(v == u)=true) :
  Calls prog 207 #[.pointer (some ⟨B.b,0,none⟩),.int .i64 f,.int .i64 u] w fun e w'=>e=.returned (.tuple #[.int .i64 l,.int .i64 r])∧AA [] w w':=by
 have c2:=h.head.cell 2;simp at c2;have hl:=look71' h hg;go_in
 go_wp2_with (go_at_call 259;refine (NE h f u hf v l r hg).mono ?_;rintro e w' ⟨rfl,rfl⟩)
 go_quiet (fail)
 go_wp2
 go_ret2
 exact ⟨rfl,(AA.alloc _ _ _).trans (AA.drewN _ _ _)⟩
theorem YY {w:World} {B:SB} {S:ST} (h:Aj w B S) (f v l r:Int) :
  Calls prog 260 #[.pointer (some ⟨B.b,0,none⟩),.int .i64 f,.agg #[.int .i64 v,.int .i64 l,.int .i64 r]] w fun e w'=>e=.returned (.tuple #[]) ∧
   Aj w' B { S with N:=put S.N f (v,l,r),U:=put S.U (v,l,r) f }∧AA B.own w w':=by
 go_in
 go_wp2
 obtain ⟨W,hW⟩:∃ W,w.alloc (.cells #[.int .i64 v,.int .i64 l,.int .i64 r] 228)=W:=⟨_,rfl⟩;have hN:=AK.new w #[.int .i64 v,.int .i64 l,.int .i64 r] 228;have hS:=h.alloc (.cells #[.int .i64 v,.int .i64 l,.int .i64 r] 228);have hK:=AA.alloc B.own w (.cells #[.int .i64 v,.int .i64 l,.int .i64 r] 228);have hne:∀ i∈B.own,i≠w.heap.size:=fun i hi=>Nat.ne_of_lt (h.lt i hi);rw [hW] at hN hS hK ⊢;clear hW;obtain ⟨z,hz⟩:∃ z,w.heap.size=z:=⟨_,rfl⟩;rw [hz] at hN hne ⊢;clear hz;have c2:=hS.head.cell 2;have n0:=hN.cell 0;have n1:=hN.cell 1;have n2:=hN.cell 2;simp at c2 n0 n1 n2;obtain ⟨o,hrun,hm⟩:=Fm (P:=prog) underlying209 In hS.drew.nodes f (v,l,r);simp only [eI,eT] at hrun;go_region
 have hS2:=hS.drew.nodesBlk hm;have hK2:AA B.own w (blk W.drew B.rn o):=(hK.trans (AA.drew _ _)).trans ((AA.blk _ _ _).mono (by simp [SB.own]));have hN2:AK (blk W.drew B.rn o) z _:=hN.of_heap (w':=blk W.drew B.rn o) (CQ o (hne B.rn (by simp [SB.own])).symm);clear hrun hm c2 n0 n1 n2;generalize blk W.drew B.rn o=W2 at hS2 hK2 hN2 ⊢;have c3:=hS2.head.cell 3;have n0:=hN2.cell 0;have n1:=hN2.cell 1;have n2:=hN2.cell 2;simp at c3 n0 n1 n2;obtain ⟨o2,hrun,hm⟩:=Fm (P:=prog) underlying210 WU hS2.drew.numbers (v,l,r) f;simp only [eI,eT] at hrun;go_wp2
 go_region
 go_end0
 exact ⟨rfl,hS2.drew.numbersBlk hm,(hK2.trans (AA.drew _ _)).trans ((AA.blk _ _ _).mono (by simp [SB.own]))⟩
end
section
open Go.RowKit
theorem Ty {w:World} (p:Value) (v l r:Int) (hlr:(l == r)=true) :
  Calls prog 208 #[p,.int .i64 v,.int .i64 l,.int .i64 r] w fun e w'=>e=.returned (.int .i64 l)∧w' = w:=by
 go_in
 go_wp2
 go_ret
 exact ⟨rfl,rfl⟩
theorem cC {w:World} {B:SB} {S:ST} (h:Aj w B S) (t:GK) (n:Nat) :
  (Instr.lookup 210 (.map (some B.ru)) (.agg #[.int .i64 t.1,.int .i64 t.2.1,.int .i64 t.2.2]) true).run prog (w.drewN n)=.ok (.tuple #[((DD S.U t).map eI).getD (.int .i64 0),.bool (DD S.U t).isSome]) (w.drewN n):=
 EM (P:=prog) underlying210 WU (z:=.int .i64 0) Kp (h.drewN n).numbers t true
theorem Rw {w:World} {B:SB} {S:ST} (h:Aj w B S) (v l r f:Int) (hlr:(l == r)=false) (hg:DD S.U (v,l,r)=some f) :
  Calls prog 208 #[.pointer (some ⟨B.b,0,none⟩),.int .i64 v,.int .i64 l,.int .i64 r] w fun e w'=>e=.returned (.int .i64 f)∧AA [] w w':=by
 go_in
 go_wp2
 have hN:=AK.new w #[.int .i64 v,.int .i64 l,.int .i64 r] 228;have hS:=h.alloc (.cells #[.int .i64 v,.int .i64 l,.int .i64 r] 228);have hK:=AA.alloc [] w (.cells #[.int .i64 v,.int .i64 l,.int .i64 r] 228);generalize w.alloc (.cells #[.int .i64 v,.int .i64 l,.int .i64 r] 228)=W at hN hS hK ⊢;generalize w.heap.size=z at hN ⊢;have c3:=hS.head.cell 3;have n0:=hN.cell 0;have n1:=hN.cell 1;have n2:=hN.cell 2;simp at c3 n0 n1 n2;have hl:=fun n=>cC hS (v,l,r) n;simp only [hg,A5,BU,eI,CG] at hl;go_quiet (fail)
 go_wp2
 go_ret
 exact ⟨rfl,hK.trans (AA.drewN _ _ _)⟩
theorem V6 {w:World} {B:SB} {S:ST} (h:Aj w B S) (v l r:Int) (hlr:(l == r)=false) (hg:DD S.U (v,l,r)=none) (hn:0≤S.next) (hn2:S.next<9223372036854775807) :
  Calls prog 208 #[.pointer (some ⟨B.b,0,none⟩),.int .i64 v,.int .i64 l,.int .i64 r] w fun e w'=>e=.returned (.int .i64 S.next)∧Aj w' B (S.add (v,l,r))∧AA B.own w w':=by
 go_in
 go_wp2
 have hN:=AK.new w #[.int .i64 v,.int .i64 l,.int .i64 r] 228;have hS:=h.alloc (.cells #[.int .i64 v,.int .i64 l,.int .i64 r] 228);have hK:=AA.alloc B.own w (.cells #[.int .i64 v,.int .i64 l,.int .i64 r] 228);have hne:∀ i∈B.own,i≠w.heap.size:=fun i hi=>Nat.ne_of_lt (h.lt i hi);generalize w.alloc (.cells #[.int .i64 v,.int .i64 l,.int .i64 r] 228)=W at hN hS hK ⊢;generalize w.heap.size=z at hN hne ⊢;have c3:=hS.head.cell 3;have n0:=hN.cell 0;have n1:=hN.cell 1;have n2:=hN.cell 2;simp at c3 n0 n1 n2;have hl:=fun n=>cC hS (v,l,r) n;simp only [hg,Cb,CB,B6] at hl;go_quiet (fail)
 clear hl c3 n0 n1 n2;have hS2:=hS.drewN nq;have hN2:AK (W.drewN nq) z _:=hN.of_heap rfl;have hK2:=hK.trans (AA.drewN B.own W nq);generalize W.drewN nq=W2 at hS2 hN2 hK2 ⊢;have c4:=hS2.head.cell 4;have f4:=hS2.head.frozen 4;simp at c4;have hS3:=hS2.nextCell (S.next+1);have hN3:AK (W2.setCell ⟨B.b,4,none⟩ (.int .i64 (S.next+1))) z _:=hN2.of_heap (Go.RowKit.Below.heap_setCell _ _ _ _ (hne B.b (by simp [SB.own])).symm);have n0:=hN3.cell 0;have n1:=hN3.cell 1;have n2:=hN3.cell 2;simp at n0 n1 n2;go_wp2_with (go_at_call 260;refine (YY hS3 _ _ _ _).mono ?_;rintro e w' ⟨rfl,hS4,hK4⟩)
 go_ret
 exact ⟨rfl,hS4,(hK2.trans ((AA.setCell _ _ _).mono (by simp [SB.own]))).trans hK4⟩
theorem JE {w:World} {B:SB} {S:ST} (h:Aj w B S) (hw:WF S) (v l r:Int) (v0:0≤v) (v1:v<S.n) (okl:S.ok l) (okr:S.ok r) (hp:l≠r→S.pl v<S.lev l∧S.pl v<S.lev r) (hn2:S.next<9223372036854775807) :
  Calls prog 208 #[.pointer (some ⟨B.b,0,none⟩),.int .i64 v,.int .i64 l,.int .i64 r] w fun e w'=>∃ x S',e=.returned (.int .i64 x)∧Aj w' B S'∧AA B.own w w'∧Kl S S' v l r x:=by
 by_cases hlr:l=r
 ·subst hlr;exact (Ty _ v l l (by simp)).mono fun e w' ⟨he,hw'⟩=>⟨l,S,he,hw' ▸ h,hw' ▸ AA.refl _ _,Ry hw v l okl⟩
 ·have hb:(l == r)=false:=by simpa using hlr
  cases hg:DD S.U (v,l,r) with
  | some f=>exact (Rw h v l r f hb hg).mono fun e w' ⟨he,hk⟩=>⟨f,S,he,h.keeps hk,hk.mono (by simp),Pz hw hg⟩
  | none=>exact (V6 h v l r hb hg (by have:=hw.two;omega) hn2).mono fun e w' ⟨he,hs,hk⟩=>⟨S.next,_,he,hs,hk,Tz hw v0 v1 hlr okl okr (hp hlr).1 (hp hlr).2 hg⟩
theorem Jw {w:World} {B:SB} {S:ST} (h:Aj w B S) (hw:WF S) (f u:Int) (hf:S.ok f) :
  Calls prog 207 #[.pointer (some ⟨B.b,0,none⟩),.int .i64 f,.int .i64 u] w fun e w'=>e=.returned (.tuple #[.int .i64 (S.cof f u).1,.int .i64 (S.cof f u).2])∧AA [] w w':=by
 rcases hf with rfl | rfl | ⟨h2,⟨v,l,r⟩,ht⟩
 ·rw [Sa hw u (by omega)];exact QS _ _ _ (by omega)
 ·rw [Sa hw u (by omega)];exact QS _ _ _ (by omega)
 ·by_cases hv:v=u
  ·have e:S.cof f u=(l,r):=by
    have:1<f:=(by omega);simp [ST.cof,ht,this,hv]
   rw [e];exact YW h f u (by omega) v l r ht (by simpa using hv)
  ·have e:S.cof f u=(f,f):=(by simp [ST.cof,ht,hv]);rw [e];exact aG h f u (by omega) v l r ht (by simpa using hv)
theorem Xn {w:World} (p:Value) (f g h:Int) (hf:(f == 1)=true) :
  Calls prog 141 #[p,.int .i64 f,.int .i64 g,.int .i64 h] w fun e w'=>e=.returned (.int .i64 g)∧w' = w:=by
 go_in
 go_wp2
 go_ret
 exact ⟨rfl,rfl⟩
theorem Ub {w:World} (p:Value) (f g h:Int) (hf:(f == 1)=false) (hg:(g == h)=true) :
  Calls prog 141 #[p,.int .i64 f,.int .i64 g,.int .i64 h] w fun e w'=>e=.returned (.int .i64 g)∧w' = w:=by
 go_in
 go_wp2
 go_ret
 exact ⟨rfl,rfl⟩
theorem Ua {w:World} (p:Value) (f g h:Int) (hf:(f == 1)=false) (hg:(g == h)=false) (hf0:(f == 0)=true) :
  Calls prog 141 #[p,.int .i64 f,.int .i64 g,.int .i64 h] w fun e w'=>e=.returned (.int .i64 h)∧w' = w:=by
 go_in
 go_wp2
 go_ret
 exact ⟨rfl,rfl⟩
theorem cZ {w:World} (p:Value) (f g h:Int) (hf:(f == 1)=false) (hg:(g == h)=false) (hf0:(f == 0)=false) (hg1:(g == 1)=true) (hh:(h == 0)=true) :
  Calls prog 141 #[p,.int .i64 f,.int .i64 g,.int .i64 h] w fun e w'=>e=.returned (.int .i64 f)∧w' = w:=by
 go_in
 go_wp2
 go_ret
 exact ⟨rfl,rfl⟩
theorem cB {w:World} {B:SB} {S:ST} (h:Aj w B S) (t:GK) (n:Nat) :
  (Instr.lookup 211 (.map (some B.rk)) (.agg #[.int .i64 t.1,.int .i64 t.2.1,.int .i64 t.2.2]) true).run prog (w.drewN n)=.ok (.tuple #[((DD S.K t).map eI).getD (.int .i64 0),.bool (DD S.K t).isSome]) (w.drewN n):=
 EM (P:=prog) underlying211 cV (z:=.int .i64 0) Kp (h.drewN n).known t true
def mX (f g h:Int):Prop:=(f == 1)=false∧(g == h)=false∧(f == 0)=false∧((g == 1)=false∨(g == 1)=true∧(h == 0)=false)
theorem ZI {w:World} {B:SB} {S:ST} (hS0:Aj w B S) (f g h r:Int) (hr:mX f g h) (hk:DD S.K (f,g,h)=some r) :
  Calls prog 141 #[.pointer (some ⟨B.b,0,none⟩),.int .i64 f,.int .i64 g,.int .i64 h] w fun e w'=>e=.returned (.int .i64 r)∧AA [] w w':=by
 obtain ⟨hf,hg,hf0,hr⟩:=hr;rcases hr with hg1 | ⟨hg1,hh⟩
 all_goals
  go_in
  go_wp2
  have hN:=AK.new w #[.int .i64 f,.int .i64 g,.int .i64 h] 285;have hS:=hS0.alloc (.cells #[.int .i64 f,.int .i64 g,.int .i64 h] 285);have hK:=AA.alloc [] w (.cells #[.int .i64 f,.int .i64 g,.int .i64 h] 285);generalize w.alloc (.cells #[.int .i64 f,.int .i64 g,.int .i64 h] 285)=W at hN hS hK ⊢;generalize w.heap.size=z at hN ⊢;have c5:=hS.head.cell 5;have n0:=hN.cell 0;have n1:=hN.cell 1;have n2:=hN.cell 2;simp at c5 n0 n1 n2;have hl:=fun n=>cB hS (f,g,h) n;simp only [hk,A5,BU,eI,CG] at hl;go_quiet (fail)
  go_wp2
  go_ret
  exact ⟨rfl,hK.trans (AA.drewN _ _ _)⟩
theorem min3 (a b c:Int) (ty:TypeId) (w:World):(Builtin.min_ #[3,3,3] ty #[.int .i64 a,.int .i64 b,.int .i64 c]).run prog w=.ok (.int .i64 (min (min a b) c)) w:=by
 have e:∀ x y:Int,(if y<x then y else x)=min x y:=fun x y=>by omega
 simp [Builtin.min_,Builtin.min2,e]
def GN:Int:=9223372036854775800
def X9 (B:SB) (k:Nat):Prop:=∀ (w:World) (S:ST) (f g h:Int),Aj w B S→WF S→Jj S→S.ok f→S.ok g→S.ok h→(S.n:Int) - min (min (S.lev f) (S.lev g)) (S.lev h)≤k→S.next+Ge k<GN →
 Calls prog 141 #[.pointer (some ⟨B.b,0,none⟩),.int .i64 f,.int .i64 g,.int .i64 h] w fun e w'=>∃ r S',e=.returned (.int .i64 r)∧Aj w' B S'∧AA B.own w w'∧JT S S' f g h r k
theorem lT {S:ST} (hw:WF S) {m:Int} (h0:0≤m) (h1:m<S.n):∃ top,S.order[m.toNat]?=some top∧0≤top∧top<S.n∧S.pl top=m:=by
 have hl:m.toNat<S.order.length:=by unfold ST.n at h1;omega
 have e:S.order[m.toNat]?=some S.order[m.toNat]:=AB hl;obtain ⟨a,b,c⟩:=hw.ord.op _ _ e;refine ⟨_,e,a,b,?_⟩;unfold ST.pl;rw [c];show (m.toNat:Int)=m;omega
theorem LI {B:SB} {S:ST} (hw:WF S) (f u:Int) (hf:S.ok f) (u0:0≤u) (u1:u<S.n) (hu:S.pl u≤S.lev f) :
  ∃ f0 f1,Hid (∀ w,Aj w B S→Calls prog 207 #[.pointer (some ⟨B.b,0,none⟩),.int .i64 f,.int .i64 u] w fun e w'=>e=.returned (.tuple #[.int .i64 f0,.int .i64 f1])∧AA [] w w')∧Cof S f u f0 f1:=by
 obtain ⟨a,b,c,d,e,f',g⟩:=MK hw hf u0 u1 hu;exact ⟨_,_,fun w h=>Jw h hw f u hf,a,b,c,d,e,f',g⟩
theorem cY {B:SB} {k:Nat} (ih:Hid (X9 B k)) {w:World} {S:ST} (f g h:Int) (hS0:Aj w B S) (hw:WF S) (hk:Jj S) (okf:S.ok f) (okg:S.ok g) (okh:S.ok h) (hr:mX f g h) (hnk:DD S.K (f,g,h)=none)
  (hlev:(S.n:Int) - min (min (S.lev f) (S.lev g)) (S.lev h)≤(k+1:Nat)) (hlim:S.next+Ge (k+1)<GN) :
  Calls prog 141 #[.pointer (some ⟨B.b,0,none⟩),.int .i64 f,.int .i64 g,.int .i64 h] w fun e w'=>∃ r S',e=.returned (.int .i64 r)∧Aj w' B S'∧AA B.own w w'∧JT S S' f g h r (k+1):=by
 obtain ⟨hf,hg,hf0,hr⟩:=hr;have rf:=Be hw okf;have rg:=Be hw okg;have rh:=Be hw okh;have f2:2≤f:=by
  have a:f≠1:=by simpa using hf
  have b:f≠0:=by simpa using hf0
  rcases okf with e | e | ⟨e,_⟩
  ·exact absurd e b
  ·exact absurd e a
  ·exact e
 have fl:=(DE hw okf).2 f2;obtain ⟨m,hm⟩:∃ m,min (min (S.lev f) (S.lev g)) (S.lev h)=m:=⟨_,rfl⟩;have m0:0≤m:=by omega
 have m1:m<S.n:=by omega
 obtain ⟨top,ht,t0,t1,tp⟩:=lT hw m0 m1;obtain ⟨f0,f1,sf,cf⟩:=LI (B:=B) hw f top okf t0 t1 (by omega);obtain ⟨g0,g1,sg,cg⟩:=LI (B:=B) hw g top okg t0 t1 (by omega);obtain ⟨h0,h1,sh,ch⟩:=LI (B:=B) hw h top okh t0 t1 (by omega);have Hlev:=AD hlev;have Hlim:=AD hlim;have Hm:=AD hm;have Htp:=AD tp;have Ht:=AD ht;have Hnk:=AD hnk;have hmin:∀ ty w,(Builtin.min_ #[3,3,3] ty #[.int .i64 (S.lev f),.int .i64 (S.lev g),.int .i64 (S.lev h)]).run prog w=.ok (.int .i64 m) w:=fun ty w=>by rw [min3,hm]
 have ml:m<S.order.length:=m1;clear hlev hlim hm tp ht hnk rf rg rh fl;rcases hr with hg1 | ⟨hg1,hh⟩
 all_goals
  go_in
  go_wp2
  have hN:=AK.new w #[.int .i64 f,.int .i64 g,.int .i64 h] 285;have hS:=hS0.alloc (.cells #[.int .i64 f,.int .i64 g,.int .i64 h] 285);have hK:=AA.alloc B.own w (.cells #[.int .i64 f,.int .i64 g,.int .i64 h] 285);have hne:w.heap.size∉B.own:=fun x=>Nat.lt_irrefl _ (hS0.lt _ x);generalize w.alloc (.cells #[.int .i64 f,.int .i64 g,.int .i64 h] 285)=W at hN hS hK ⊢;generalize w.heap.size=z at hN hne ⊢;have c5:=hS.head.cell 5;have n0:=hN.cell 0;have n1:=hN.cell 1;have n2:=hN.cell 2;simp at c5 n0 n1 n2;have hl:=fun n=>cB hS (f,g,h) n;simp only [Hnk.out,Cb,CB,B6] at hl;go_quiet (fail)
  clear hl c5 n0 n1 n2;have hS2:=hS.drewN nq;have hN2:AK (W.drewN nq) z _:=hN.of_heap rfl;have hK2:=hK.trans (AA.drewN B.own W nq);clear hN hS hK;generalize W.drewN nq=W2 at hS2 hN2 hK2 ⊢;go_wp2
  have c0:=hS2.head.cell 0;simp at c0;have hc:=hS2.order.cell Ht.out;go_quiet ((go_at_call 206;refine Calls.quiet_of (UR (hS2.drewN _) hw _ ?_);first | exact okf | exact okg | exact okh))
  have hS3:=hS2.drewN nq;have hN3:AK (W2.drewN nq) z _:=hN2.of_heap rfl;have hK3:=hK2.trans (AA.drewN B.own W2 nq);clear hN2 hS2 hK2 c0 hc;generalize W2.drewN nq=W3 at hS3 hN3 hK3 ⊢;go_wp2_with fail
  refine (sf.out W3 hS3).mono ?_;rintro e W4 ⟨rfl,k4⟩;have hS4:=hS3.keeps k4;have hN4:=hN3.keeps k4;have hK4:=hK3.trans (k4.mono (by simp));clear hS3 hN3 hK3 k4;go_wp2_with fail
  refine (sg.out W4 hS4).mono ?_;rintro e W5 ⟨rfl,k5⟩;have hS5:=hS4.keeps k5;have hN5:=hN4.keeps k5;have hK5:=hK4.trans (k5.mono (by simp));clear hS4 hN4 hK4 k5;go_wp2_with fail
  refine (sh.out W5 hS5).mono ?_;rintro e W6 ⟨rfl,k6⟩;have hS6:=hS5.keeps k6;have hN6:=hN5.keeps k6;have hK6:=hK5.trans (k6.mono (by simp));clear hS5 hN5 hK5 k6;go_wp2_with fail
  refine (ih.out W6 S f0 g0 h0 hS6 hw hk cf.ok0 cg.ok0 ch.ok0 ?_ ?_).mono ?_
  ·have:=cf.lt0;have:=cg.lt0;have:=ch.lt0;have:=Htp.out;have:=Hlev.out;have:=Hm.out;omega
  ·have:=Hlim.out;simp only [Ge] at this;have:=EX k;omega
  rintro e W7 ⟨r0,S1,rfl,hS7,k7,p0⟩;have hN7:=hN6.keeps k7 hne;have hK7:=hK6.trans k7;clear hS6 hN6 hK6 k7;go_wp2_with fail
  refine (ih.out W7 S1 f1 g1 h1 hS7 p0.wf p0.known (p0.ext.ok cf.ok1) (p0.ext.ok cg.ok1) (p0.ext.ok ch.ok1) ?_ ?_).mono ?_
  ·rw [p0.ext.lev cf.ok1,p0.ext.lev cg.ok1,p0.ext.lev ch.ok1,p0.ext.n];have:=cf.lt1;have:=cg.lt1;have:=ch.lt1;have:=Htp.out;have:=Hlev.out;have:=Hm.out;omega
  ·have:=Hlim.out;simp only [Ge] at this;have:=p0.next;omega
  rintro e W8 ⟨r1,S2,rfl,hS8,k8,p1⟩;have hN8:=hN7.keeps k8 hne;have hK8:=hK7.trans k8;clear hS7 hN7 hK7 k8;go_wp2_with fail
  refine (JE hS8 p1.wf top r0 r1 t0 ?_ (p1.ext.ok p0.ok) p1.ok ?_ ?_).mono ?_
  ·rw [p1.ext.n,p0.ext.n];exact t1
  ·intro _;rw [p1.ext.pl,p0.ext.pl,p1.ext.lev p0.ok];have a:=p0.lev (S.pl top+1) cf.lt0 cg.lt0 ch.lt0;have b:=p1.lev (S.pl top+1) (by rw [p0.ext.lev cf.ok1];exact cf.lt1) (by rw [p0.ext.lev cg.ok1];exact cg.lt1) (by rw [p0.ext.lev ch.ok1];exact ch.lt1);omega
  ·have:=Hlim.out;simp only [Ge] at this;have:=p0.next;have:=p1.next;unfold GN at *;omega
  rintro e W9 ⟨x,S3,rfl,hS9,k9,p2⟩;have hN9:=hN8.keeps k9 hne;have hK9:=hK8.trans k9;clear hS8 hN8 hK8 k9;have c5:=hS9.head.cell 5;have n0:=hN9.cell 0;have n1:=hN9.cell 1;have n2:=hN9.cell 2;simp at c5 n0 n1 n2;obtain ⟨o,hrun,hmm⟩:=Fm (P:=prog) underlying211 cV hS9.drew.known (f,g,h) x;simp only [eI,eT] at hrun;go_wp2
  go_region
  go_wp2
  go_ret
  refine ⟨x,S3.withK (put S3.K (f,g,h) x),rfl,hS9.drew.knownBlk hmm,(hK9.trans (AA.drew _ _)).trans ((AA.blk _ _ _).mono (by simp [SB.own])),?_⟩;exact SE hw okf okg okh (by rw [Hm.out,Htp.out];exact Cl _) cf cg ch p0 p1 p2
theorem Fg {B:SB} {w:World} {S:ST} {f g h r:Int} (k:Nat) (hS:Aj w B S) (hw:WF S) (hk:Jj S) (okr:S.ok r) (den:∀ σ,S.den r σ=if S.den f σ then S.den g σ else S.den h σ)
  (lev:∀ m,m≤S.lev f→m≤S.lev g→m≤S.lev h→m≤S.lev r)
  (hc:Calls prog 141 #[.pointer (some ⟨B.b,0,none⟩),.int .i64 f,.int .i64 g,.int .i64 h] w fun e w'=>e=.returned (.int .i64 r)∧AA [] w w') :
  Calls prog 141 #[.pointer (some ⟨B.b,0,none⟩),.int .i64 f,.int .i64 g,.int .i64 h] w fun e w'=>∃ r S',e=.returned (.int .i64 r)∧Aj w' B S'∧AA B.own w w'∧JT S S' f g h r k:=
 hc.mono fun e w' ⟨he,hkeep⟩=>⟨r,S,he,hS.keeps hkeep,hkeep.mono (by simp),P6 hw hk k okr den lev⟩
theorem E8 {P:Program} {f:FuncId} {args:Array Value} {w:World} {v:Value} (h:Calls P f args w fun e w'=>e=.returned v∧w' = w):Calls P f args w fun e w'=>e=.returned v∧AA [] w w':=
 h.mono fun _ _ ⟨a,b⟩=>⟨a,b ▸ AA.refl _ _⟩
theorem dA (B:SB):∀ k,X9 B k:=by
 intro k;induction k with
 | zero=>
  intro w S f g h hS hw hk okf okg okh hl hlim;have fl:¬ 2≤f:=fun x=>by have:=(DE hw okf).2 x;omega
  rcases okf with rfl | rfl | ⟨x,_⟩
  ·by_cases hgh:g=h
   ·subst hgh;exact Fg 0 hS hw hk okg (fun σ=>by simp) (fun m _ h _=>h) (E8 (Ub _ 0 g g (by simp) (by simp)))
   ·exact Fg 0 hS hw hk okh (fun σ=>by simp [CI]) (fun m _ _ h=>h) (E8 (Ua _ 0 g h (by simp) (by simpa using hgh) (by simp)))
  ·exact Fg 0 hS hw hk okg (fun σ=>by simp [Dq]) (fun m _ h _=>h) (E8 (Xn _ 1 g h (by simp)))
  ·exact absurd x fl
 | succ k ih=>
  intro w S f g h hS hw hk okf okg okh hl hlim;by_cases f1:f=1
  ·subst f1;exact Fg _ hS hw hk okg (fun σ=>by simp [Dq]) (fun m _ h _=>h) (E8 (Xn _ 1 g h (by simp)))
  by_cases hgh:g=h
  ·subst hgh;exact Fg _ hS hw hk okg (fun σ=>by simp) (fun m _ h _=>h) (E8 (Ub _ f g g (by simpa using f1) (by simp)))
  by_cases f0:f=0
  ·subst f0;exact Fg _ hS hw hk okh (fun σ=>by simp [CI]) (fun m _ _ h=>h) (E8 (Ua _ 0 g h (by simp) (by simpa using hgh) (by simp)))
  by_cases hself:g=1∧h=0
  ·obtain ⟨rfl,rfl⟩:=hself;exact Fg _ hS hw hk okf (fun σ=>by rw [Dq,CI];cases S.den f σ <;> rfl) (fun m h _ _=>h) (E8 (cZ _ f 1 0 (by simpa using f1) (by simp) (by simpa using f0) (by simp) (by simp)))
  have hr:mX f g h:=⟨by simpa using f1,by simpa using hgh,by simpa using f0,by
   by_cases g1:g=1
   ·exact .inr ⟨by simpa using g1,by simpa using fun e=>hself ⟨g1,e⟩⟩
   ·exact .inl (by simpa using g1)⟩
  cases hkn:DD S.K (f,g,h) with
  | some r=>
   obtain ⟨_,_,_,okr,den,lev⟩:=hk f g h r hkn;exact Fg _ hS hw hk okr den lev (ZI hS f g h r hr hkn)
  | none=>exact cY (AD ih) f g h hS hw hk okf okg okh hr hkn hl hlim
structure kZ (S S':ST) (r:Int) (F:(Int→Bool)→Bool) (c m:Int):Prop where
 ext:EK S S'
 wf:WF S'
 known:Jj S'
 ok:S'.ok r
 den:∀ σ,S'.den r σ=F σ
 next:S'.next≤S.next+c
 lev:m≤S'.lev r
def Nm (B:SB) (w:World) (S:ST) (F:(Int→Bool)→Bool) (c m:Int) (e:Ending) (w':World):Prop:=
 ∃ r S',e=.returned (.int .i64 r)∧Aj w' B S'∧AA B.own w w'∧kZ S S' r F c m
theorem Gq {B:SB} {w:World} {S:ST} (f g h:Int) (hS:Aj w B S) (hw:WF S) (hk:Jj S) (okf:S.ok f) (okg:S.ok g) (okh:S.ok h) (hlim:S.next+Ge S.n<GN) :
  Calls prog 141 #[.pointer (some ⟨B.b,0,none⟩),.int .i64 f,.int .i64 g,.int .i64 h] w (Nm B w S (fun σ=>if S.den f σ then S.den g σ else S.den h σ) (Ge S.n) (min (min (S.lev f) (S.lev g)) (S.lev h))):=by
 have rf:=Be hw okf;have rg:=Be hw okg;have rh:=Be hw okh;exact (dA B S.n w S f g h hS hw hk okf okg okh (by omega) hlim).mono fun e w' ⟨r,S',he,hs,hkp,p⟩=>⟨r,S',he,hs,hkp,p.ext,p.wf,p.known,p.ok,p.den,p.next,p.lev _ (by omega) (by omega) (by omega)⟩
theorem Es (S:ST):S.ok 0:=.inl rfl
theorem IR (S:ST):S.ok 1:=.inr (.inl rfl)
theorem Qf {B:SB} {w:World} {S:ST} (f:Int) (hS:Aj w B S) (hw:WF S) (hk:Jj S) (okf:S.ok f) (hlim:S.next+Ge S.n<GN) :
  Calls prog 170 #[.pointer (some ⟨B.b,0,none⟩),.int .i64 f] w (Nm B w S (fun σ=>!S.den f σ) (Ge S.n) 0):=by
 have hc:=AD (Gq f 0 1 hS hw hk okf (Es S) (IR S) hlim);go_in
 go_wp2_with fail
 refine hc.out.mono ?_;rintro e w' ⟨r,S',rfl,hs,hkp,p⟩;go_wp2
 go_ret
 exact ⟨r,S',rfl,hs,hkp,p.ext,p.wf,p.known,p.ok,fun σ=>by rw [p.den,CI,Dq];cases S.den f σ <;> rfl,p.next,(Be p.wf p.ok).1⟩
theorem R2 (a b:Int) (ty:TypeId) (w:World):(Builtin.min_ #[3,3] ty #[.int .i64 a,.int .i64 b]).run prog w=.ok (.int .i64 (min a b)) w:=by
 have e:∀ x y:Int,(if y<x then y else x)=min x y:=fun x y=>by omega
 simp [Builtin.min_,Builtin.min2,e]
theorem R3 (a b:Int) (ty:TypeId) (w:World):(Builtin.max_ #[3,3] ty #[.int .i64 a,.int .i64 b]).run prog w=.ok (.int .i64 (max a b)) w:=by
 have e:∀ x y:Int,(if x<y then y else x)=max x y:=fun x y=>by omega
 simp [Builtin.max_,Builtin.max2,e]
theorem V9 (a b:Int):(min a b=a∧max a b=b)∨(min a b=b∧max a b=a):=by omega
theorem Zi {B:SB} {w:World} {S:ST} (f g:Int) (hS:Aj w B S) (hw:WF S) (hk:Jj S) (okf:S.ok f) (okg:S.ok g) (hlim:S.next+Ge S.n<GN) :
  Calls prog 148 #[.pointer (some ⟨B.b,0,none⟩),.int .i64 f,.int .i64 g] w (Nm B w S (fun σ=>S.den f σ && S.den g σ) (Ge S.n) 0):=by
 obtain ⟨a,ha⟩:∃ a,min f g=a:=⟨_,rfl⟩;obtain ⟨b,hb⟩:∃ b,max f g=b:=⟨_,rfl⟩;have h1:∀ ty w,(Builtin.min_ #[3,3] ty #[.int .i64 f,.int .i64 g]).run prog w=.ok (.int .i64 a) w:=fun ty w=>by rw [R2,ha]
 have h2:∀ ty w,(Builtin.max_ #[3,3] ty #[.int .i64 f,.int .i64 g]).run prog w=.ok (.int .i64 b) w:=fun ty w=>by rw [R3,hb]
 have hab:Hid ((a=f∧b=g)∨(a=g∧b=f)):=by rw [←ha,←hb];exact V9 f g
 clear ha hb;have oka:S.ok a:=by rcases hab.out with ⟨x,y⟩ | ⟨x,y⟩ <;> rw [x] <;> assumption
 have okb:S.ok b:=by rcases hab.out with ⟨x,y⟩ | ⟨x,y⟩ <;> rw [y] <;> assumption
 have hc:=AD (Gq a b 0 hS hw hk oka okb (Es S) hlim);go_in
 go_wp2_with fail
 refine hc.out.mono ?_;rintro e w' ⟨r,S',rfl,hs,hkp,p⟩;go_wp2
 go_ret
 refine ⟨r,S',rfl,hs,hkp,p.ext,p.wf,p.known,p.ok,fun σ=>?_,p.next,(Be p.wf p.ok).1⟩;rw [p.den,CI];rcases hab.out with ⟨x,y⟩ | ⟨x,y⟩ <;> rw [x,y] <;> cases S.den f σ <;> cases S.den g σ <;> rfl
theorem Tt {B:SB} {w:World} {S:ST} (f g:Int) (hS:Aj w B S) (hw:WF S) (hk:Jj S) (okf:S.ok f) (okg:S.ok g) (hlim:S.next+Ge S.n<GN) :
  Calls prog 73 #[.pointer (some ⟨B.b,0,none⟩),.int .i64 f,.int .i64 g] w (Nm B w S (fun σ=>S.den f σ || S.den g σ) (Ge S.n) (min (S.lev f) (S.lev g))):=by
 obtain ⟨a,ha⟩:∃ a,min f g=a:=⟨_,rfl⟩;obtain ⟨b,hb⟩:∃ b,max f g=b:=⟨_,rfl⟩;have h1:∀ ty w,(Builtin.min_ #[3,3] ty #[.int .i64 f,.int .i64 g]).run prog w=.ok (.int .i64 a) w:=fun ty w=>by rw [R2,ha]
 have h2:∀ ty w,(Builtin.max_ #[3,3] ty #[.int .i64 f,.int .i64 g]).run prog w=.ok (.int .i64 b) w:=fun ty w=>by rw [R3,hb]
 have hab:Hid ((a=f∧b=g)∨(a=g∧b=f)):=by rw [←ha,←hb];exact V9 f g
 clear ha hb;have oka:S.ok a:=by rcases hab.out with ⟨x,y⟩ | ⟨x,y⟩ <;> rw [x] <;> assumption
 have okb:S.ok b:=by rcases hab.out with ⟨x,y⟩ | ⟨x,y⟩ <;> rw [y] <;> assumption
 have hc:=AD (Gq a 1 b hS hw hk oka (IR S) okb hlim);go_in
 go_wp2_with fail
 refine hc.out.mono ?_;rintro e w' ⟨r,S',rfl,hs,hkp,p⟩;go_wp2
 go_ret
 refine ⟨r,S',rfl,hs,hkp,p.ext,p.wf,p.known,p.ok,fun σ=>?_,p.next,?_⟩
 ·rw [p.den,Dq];rcases hab.out with ⟨x,y⟩ | ⟨x,y⟩ <;> rw [x,y] <;> cases S.den f σ <;> cases S.den g σ <;> rfl
 ·have:=p.lev;have l1:S.lev 1=S.n:=Eu (by omega);have rf:=Be hw okf;have rg:=Be hw okg;rcases hab.out with ⟨x,y⟩ | ⟨x,y⟩ <;> rw [x,y,l1] at this <;> omega
theorem YE {B:SB} {w:World} {S:ST} (f g:Int) (hS:Aj w B S) (hw:WF S) (hk:Jj S) (okf:S.ok f) (okg:S.ok g) (hlim:S.next+2 * Ge S.n<GN) :
  Calls prog 213 #[.pointer (some ⟨B.b,0,none⟩),.int .i64 f,.int .i64 g] w (Nm B w S (fun σ=>S.den f σ != S.den g σ) (2 * Ge S.n) 0):=by
 have hc0:=EX S.n;obtain ⟨a,ha⟩:∃ a,min f g=a:=⟨_,rfl⟩;obtain ⟨b,hb⟩:∃ b,max f g=b:=⟨_,rfl⟩;have h1:∀ ty w,(Builtin.min_ #[3,3] ty #[.int .i64 f,.int .i64 g]).run prog w=.ok (.int .i64 a) w:=fun ty w=>by rw [R2,ha]
 have h2:∀ ty w,(Builtin.max_ #[3,3] ty #[.int .i64 f,.int .i64 g]).run prog w=.ok (.int .i64 b) w:=fun ty w=>by rw [R3,hb]
 have hab:Hid ((a=f∧b=g)∨(a=g∧b=f)):=by rw [←ha,←hb];exact V9 f g
 clear ha hb;have oka:S.ok a:=by rcases hab.out with ⟨x,y⟩ | ⟨x,y⟩ <;> rw [x] <;> assumption
 have okb:S.ok b:=by rcases hab.out with ⟨x,y⟩ | ⟨x,y⟩ <;> rw [y] <;> assumption
 have hc:=AD (Qf b hS hw hk okb (by omega));have Hlim:=AD hlim;clear hlim hc0;go_in
 go_wp2_with fail
 refine hc.out.mono ?_;rintro e W1 ⟨r1,S1,rfl,hs1,hkp1,p1⟩;have hc2:=AD (Gq a r1 b hs1 p1.wf p1.known (p1.ext.ok oka) p1.ok (p1.ext.ok okb) (by rw [p1.ext.n];have:=p1.next;have:=Hlim.out;omega));go_wp2_with fail
 refine hc2.out.mono ?_;rintro e w' ⟨r,S',rfl,hs,hkp,p⟩;go_wp2
 go_ret
 refine ⟨r,S',rfl,hs,hkp1.trans hkp,p1.ext.trans p.ext,p.wf,p.known,p.ok,fun σ=>?_,?_,(Be p.wf p.ok).1⟩
 ·rw [p.den,p1.den,p1.ext.den hw p1.wf oka,p1.ext.den hw p1.wf okb];rcases hab.out with ⟨x,y⟩ | ⟨x,y⟩ <;> rw [x,y] <;> cases S.den f σ <;> cases S.den g σ <;> rfl
 ·have hx:=p.next;rw [p1.ext.n] at hx;have:=p1.next;omega
theorem Wn {B:SB} {w:World} {S:ST} (f g:Int) (hS:Aj w B S) (hw:WF S) (hk:Jj S) (okf:S.ok f) (okg:S.ok g) (hlim:S.next+Ge S.n<GN) :
  Calls prog 88 #[.pointer (some ⟨B.b,0,none⟩),.int .i64 f,.int .i64 g] w (Nm B w S (fun σ=>S.den f σ && !S.den g σ) (Ge S.n) 0):=by
 have hc:=AD (Gq g 0 f hS hw hk okg (Es S) okf hlim);go_in
 go_wp2_with fail
 refine hc.out.mono ?_;rintro e w' ⟨r,S',rfl,hs,hkp,p⟩;go_wp2
 go_ret
 exact ⟨r,S',rfl,hs,hkp,p.ext,p.wf,p.known,p.ok,fun σ=>by rw [p.den,CI];cases S.den f σ <;> cases S.den g σ <;> rfl,p.next,(Be p.wf p.ok).1⟩
theorem Vh {B:SB} {w:World} {S:ST} (i:Int) (hS:Aj w B S) (hw:WF S) (hk:Jj S) (i0:0≤i) (i1:i<S.n) (hlim:S.next+1<GN) :
  Calls prog 145 #[.pointer (some ⟨B.b,0,none⟩),.int .i64 i] w (Nm B w S (fun σ=>σ i) 1 0):=by
 have hp:=hw.pl_range i0 i1;have hc:=AD (JE hS hw i 0 1 i0 i1 (Es S) (IR S) (fun _=>by rw [Eu (by omega),Eu (by omega)];exact ⟨hp.2.1,hp.2.1⟩) (by unfold GN at hlim;omega));clear hp hlim;go_in
 go_wp2_with fail
 refine hc.out.mono ?_;rintro e w' ⟨r,S',rfl,hs,hkp,p⟩;go_wp2
 go_ret
 exact ⟨r,S',rfl,hs,hkp,p.ext,p.wf,hk.ext p.ext hw p.wf p.known,p.ok,fun σ=>by rw [p.den,CI,Dq];cases σ i <;> rfl,p.next,(Be p.wf p.ok).1⟩
theorem AA.putObj (w:World) (l:Nat) (o:Obj):AA [l] w (w.putObj l o):=⟨rfl,rfl,rfl,by simp,fun i _ hn=>World.putObj_heap_other (by simpa using hn)⟩
theorem AA.below {T:List Nat} {w w':World} {B:Nat} (h:AA T w w') (hB:B≤w.heap.size) (hT:∀ t∈T,B≤t):Go.RowKit.Below B w w':=
 ⟨h.os,h.tape,h.output,h.size,fun k hk=>h.block k (by omega) (fun x=>by have:=hT _ x;omega)⟩
def nB {α:Type} (gf:FuncId) (lb:Array Value) (encs:α→Array Value) (cond:List α→α→Prop) (Good:List α→Prop) (T:List Nat) (w:World):Prop:=
 ∀ (n l:Nat) (J:List α→World→Prop) (W:World),w.heap.size≤l→l<W.heap.size→Go.RowKit.Below w.heap.size w W →
  (∀ pre W1 W2,J pre W1→Go.RowKit.Below W.heap.size W1 W2→J pre W2) →
  (∀ pre x W1,J pre W1→cond pre x→YieldAt Fence.wide (n - 1) prog l (encs x) W1 fun e W'=>e=.returned (.bool true)∧J (pre++[x]) W'∧AA (l :: T) W1 W') →
  J [] W →
  CallsIn Fence.wide n prog gf (#[.func (.yield l) #[] #[]]++lb) W fun e W'=>(∃ v,e=.returned v)∧∃ xs,Good xs∧J xs W'∧AA (l :: T) W W'
def Qt (I:World→Prop) (T:List Nat) (W:World):Exit→Act→World→Prop
 | .normal,_,W'=>I W'∧AA T W W'
 | _,_,_=>False
theorem Qa {α:Type} {n:Nat} {g:Operand} {ps:Array Tmp} {assign body:Code} {Q:Exit→Act→World→Prop} {a:Act} {w:World} {gf:Nat} {lb:Array Value} (hg:a.eval g=.func (.func gf) #[] lb)
  (eg:∀ args w,(callFunc gf args).run prog w=.ok (.enter gf args) w) {encs:α→Array Value} {cond:List α→α→Prop} {Good:List α→Prop} {T:List Nat} (hT:∀ t∈T,t<w.heap.size) (hseq:nB gf lb encs cond Good T w) (hps:∀ x,(encs x).size=ps.size)
  (I:List α→World→Prop) (hI:∀ pre W1 W2,I pre W1→Go.RowKit.Below w.heap.size W1 W2→I pre W2) (h0:I [] w) (Ax:α→Act→World→Prop) (hAx:∀ x a' W1 W2,Ax x a' W1→AA [w.heap.size+1] W1 W2→Ax x a' W2)
  (hassign:∀ (l:Nat) (pre:List α) (x:α) (W:World) (K:Act→World→Prop),w.heap.size+1<W.heap.size→I pre W→cond pre x→(∀ a' W',Ax x a' W'→AA [] W W'→K a' W') →
   assign.wpIn (Fence.wide.inRound l) (n - 1 - 1) prog (Exit.then K (fun _ _ _=>False)) { tmps:=(ps.zip (encs x)).foldl (fun t (p,v)=>t.setIfInBounds p v) a.tmps,defers:=[] } W)
  (hbody:∀ (l:Nat) (pre:List α) (x:α) (a':Act) (W:World),w.heap.size+1<W.heap.size→I pre W→cond pre x→Ax x a' W→body.wpIn (Fence.wide.inRound l) (n - 1 - 1) prog (Qt (I (pre++[x])) T W) a' W)
  (hdone:∀ (xs:List α) (W:World),Good xs→I xs W→AA T w W→w.heap.size<W.heap.size→W.heap[w.heap.size]?=some (.deferred (some []))→Q .normal { a with defers:={ target:=.collected w.heap.size,args:=#[] } :: a.defers } W) :
  (Code.rangeFunc g ps assign body).wpIn Fence.wide n prog Q a w:=by
 refine wpIn_rangeFunc ?_;intro fn hfn;show ∃ l mark w₁ d w₁' f args w₂,(Instr.enterLoop fn a.tmps ps assign body none).run prog w=_∧_;let rec1:LoopState→Loop:=fun st=>{ state:=st,pending:=none,fn,tmps:=a.tmps,params:=ps,assign,body,defers:=w.heap.size };obtain ⟨W1,hW1⟩:∃ W1,(w.alloc (.deferred (some []))).alloc (.loop (rec1 .ready))=W1:=⟨_,rfl⟩;have k1:AA [] w W1:=by rw [←hW1];exact (AA.alloc _ _ _).trans (AA.alloc _ _ _)
 have hD1:W1.heap[w.heap.size]?=some (.deferred (some [])):=by
  rw [←hW1];exact (Go.RowKit.Below.heap_alloc _ _ _ (by simp)).trans (World.alloc_heap_new w _)
 have hL1:W1.heap[w.heap.size+1]?=some (.loop (rec1 .ready)):=by
  rw [←hW1];have:=World.alloc_heap_new (w.alloc (.deferred (some []))) (.loop (rec1 .ready));rwa [World.size_alloc] at this
 have hs1:W1.heap.size=w.heap.size+1+1:=by rw [←hW1];simp
 refine ⟨w.heap.size+1,[{ target:=.collected w.heap.size,args:=#[] }],W1,{ target:=.fn (.func gf) lb,args:=#[.func (.yield (w.heap.size+1)) #[] #[]] },W1,gf,
  #[.func (.yield (w.heap.size+1)) #[] #[]]++lb,W1,?_,?_,fun _ _=>trivial,?_,fun h=>(nomatch h),?_⟩
 ·rw [←hW1];exact run_enterLoop_outer _ _ _ _ _
 ·simp only [resolve,hg];simp [go_sem]
 ·simp [invoke,go_sem,eg]
 ·refine (hseq (n - 1) (w.heap.size+1) (fun pre W=>I pre W∧W.heap[w.heap.size+1]?=some (.loop (rec1 .ready))∧W.heap[w.heap.size]?=some (.deferred (some []))) W1 (by omega) (by omega)
   (k1.below (AQ _) (by simp)) ?_ ?_ ⟨hI _ _ _ h0 (k1.below (AQ _) (by simp)),hL1,hD1⟩).mono ?_
  ·rintro pre A B ⟨i,l,d⟩ hb;exact ⟨hI _ _ _ i (hb.mono (by omega)),(hb.block _ (by omega)).trans l,(hb.block _ (by omega)).trans d⟩
  ·rintro pre x W ⟨hi,hl,hd⟩ hc;have hlt:w.heap.size+1<W.heap.size:=(AO.1 hl).1;refine ⟨fn,_,assign,body,run_yield (P:=prog) (args:=encs x) hl (hps x),roundIn_of_wpIn trivial (hassign _ pre x W _ hlt hi hc ?_)⟩;intro a' W' hax hk;have hl':W'.heap[w.heap.size+1]?=some (.loop (rec1 .ready)):=(hk.block _ hlt (by simp)).trans hl;have hd':W'.heap[w.heap.size]?=some (.deferred (some [])):=(hk.block _ (by omega) (by simp)).trans hd;have hlt':w.heap.size+1<W'.heap.size:=(AO.1 hl').1;have hwl:w.heap.size≤W.heap.size:=(by omega);have hi':I pre W':=hI _ _ _ hi (hk.below hwl (by simp));have k2:=AA.putObj W' (w.heap.size+1) (.loop (rec1 .busy));have hl2:(W'.putObj (w.heap.size+1) (.loop (rec1 .busy))).heap[w.heap.size+1]?=some (.loop (rec1 .busy)):=World.putObj_heap_same hlt';have hd2:(W'.putObj (w.heap.size+1) (.loop (rec1 .busy))).heap[w.heap.size]?=some (.deferred (some [])):=(World.putObj_heap_other (by omega)).trans hd';refine ⟨_,run_beginRound hl' rfl,?_⟩;refine wpIn_mono (hbody _ pre x a' (W'.putObj (w.heap.size+1) (.loop (rec1 .busy))) (AO.1 hl2).1 (hI _ _ _ hi' (k2.below (by omega) (by simp))) hc (hAx _ _ _ _ hax k2)) ?_;rintro e a3 W3 hp;cases e with
   | normal=>
    obtain ⟨hi3,k3⟩:=hp;have hl3:W3.heap[w.heap.size+1]?=some (.loop (rec1 .busy)):=(k3.block _ (AO.1 hl2).1 (fun x=>by have:=hT _ x;omega)).trans hl2;have hd3:W3.heap[w.heap.size]?=some (.deferred (some [])):=(k3.block _ (AO.1 hd2).1 (fun x=>by have:=hT _ x;omega)).trans hd2;have hlt3:=(AO.1 hl3).1;have k4:=AA.putObj W3 (w.heap.size+1) (.loop (rec1 .ready));refine ⟨_,_,run_endRound none hl3,rfl,⟨hI _ _ _ hi3 (k4.below (by omega) (by simp)),World.putObj_heap_same hlt3,(World.putObj_heap_other (by omega)).trans hd3⟩,?_⟩;exact (((hk.mono (by simp)).trans (k2.mono (by simp))).trans (k3.mono (fun i hi=>AP _ hi))).trans (k4.mono (by simp))
   | ret=>exact hp.elim
   | exit id=>exact hp.elim
   | goto t=>exact hp.elim
   | panic c=>exact hp.elim
   | outgrown=>exact hp.elim
  ·rintro e W2 ⟨⟨v,rfl⟩,xs,hG,⟨hi,hl,hd⟩,k2⟩;have k5:=AA.putObj W2 (w.heap.size+1) (.loop (rec1 .exhausted));have hlt2:=(AO.1 hl).1;refine ⟨none,_,run_endLoop hl (by simp [rec1]),?_⟩;refine hdone xs _ hG (hI _ _ _ hi (k5.below (by omega) (by simp))) ?_ (by simp;omega) ((World.putObj_heap_other (by omega)).trans hd);refine (k1.mono (by simp)).trans_new (k2.trans (k5.mono (by simp))) ?_;intro i hi;rcases AG.1 hi with e | x
   ·exact .inr (by omega)
   ·exact .inl x
structure GY (b:Nat) (T:List Nat) (w w':World):Prop where
 os:w'.os=w.os
 tape:w'.tape=w.tape
 output:w'.output=w.output
 size:w.heap.size≤w'.heap.size
 block:∀ i,i<w.heap.size→i∉T→(i<b∨∀ cs t f,w.heap[i]?≠some (.cells cs t f))→w'.heap[i]?=w.heap[i]?
theorem GY.trans {b:Nat} {T:List Nat} {x y z:World} (h:GY b T x y) (k:GY b T y z):GY b T x z:=
 ⟨k.os.trans h.os,k.tape.trans h.tape,k.output.trans h.output,At h.size k.size,fun i hi hT hc=>by
  have e:=h.block i hi hT hc;refine (k.block i (A4 hi h.size) hT ?_).trans e;rcases hc with hc | hc
  ·exact .inl hc
  ·rw [e];exact .inr hc⟩
theorem GY.mono {b:Nat} {T T':List Nat} {w w':World} (h:GY b T w w') (hT:∀ i∈T,i∈T'):GY b T' w w':=
 ⟨h.os,h.tape,h.output,h.size,fun i hi hn hc=>h.block i hi (fun x=>hn (hT i x)) hc⟩
theorem AA.grows {b:Nat} {T T':List Nat} {w w':World} (h:AA T w w') (hT:∀ i∈T,i∈T'):GY b T' w w':=
 ⟨h.os,h.tape,h.output,h.size,fun i hi hn _=>h.block i hi (fun x=>hn (hT i x))⟩
theorem AA.growsRow {b:Nat} {T T':List Nat} {w w':World} (h:AA T w w') (hT:∀ i∈T,i∈T'∨(b≤i∧∃ cs t f,w.heap[i]?=some (.cells cs t f))):GY b T' w w':=
 ⟨h.os,h.tape,h.output,h.size,fun i hi hn hc=>h.block i hi (fun x=>by
  rcases hT i x with h1 | ⟨h1,cs,t,f,h2⟩
  ·exact hn h1
  ·rcases hc with hc | hc
   ·omega
   ·exact hc _ _ _ h2)⟩
theorem AA.trans_grows {T T':List Nat} {a b c:World} (h:AA T a b) (k:GY a.heap.size T' b c) (hT:∀ i∈T',i∈T∨a.heap.size≤i):AA T a c:=
 ⟨k.os.trans h.os,k.tape.trans h.tape,k.output.trans h.output,At h.size k.size,fun i hi hn=>(k.block i (A4 hi h.size) (fun x=>by
  rcases hT i x with h1 | h1
  ·exact hn h1
  ·omega) (.inl hi)).trans (h.block i hi hn)⟩
structure GU (b:Nat) (w w':World):Prop where
 os:w'.os=w.os
 tape:w'.tape=w.tape
 output:w'.output=w.output
 size:w.heap.size≤w'.heap.size
 block:∀ i,i<w.heap.size→(i<b∨∃ cs t f,w.heap[i]?=some (.cells cs t f))→w'.heap[i]?=w.heap[i]?
theorem GU.mono {b b':Nat} {w w':World} (h:GU b w w') (hb:b'≤b):GU b' w w':=
 ⟨h.os,h.tape,h.output,h.size,fun i hi hc=>h.block i hi (hc.imp (fun x=>by omega) id)⟩
theorem AA.still {b:Nat} {T:List Nat} {w w':World} (h:AA T w w') (hT:∀ i∈T,b≤i∧∀ cs t f,w.heap[i]?≠some (.cells cs t f)):GU b w w':=
 ⟨h.os,h.tape,h.output,h.size,fun i hi hc=>h.block i hi (fun x=>by
  obtain ⟨h1,h2⟩:=hT i x;rcases hc with hc | ⟨cs,t,f,hc⟩
  ·omega
  ·exact h2 _ _ _ hc)⟩
def lQ {α:Type} (gf:FuncId) (lb:Array Value) (encs:α→Array Value) (cond:List α→α→Prop) (Good:List α→Prop) (T:List Nat) (w:World):Prop:=
 ∀ (n l:Nat) (J:List α→World→Prop) (W:World),w.heap.size≤l→l<W.heap.size→Go.RowKit.Below w.heap.size w W →
  (∀ pre W1 W2,J pre W1→GU W.heap.size W1 W2→J pre W2) →
  (∀ pre x W1,J pre W1→cond pre x→YieldAt Fence.wide (n - 1) prog l (encs x) W1 fun e W'=>e=.returned (.bool true)∧J (pre++[x]) W'∧GY w.heap.size (l :: T) W1 W') →
  J [] W →
  CallsIn Fence.wide n prog gf (#[.func (.yield l) #[] #[]]++lb) W fun e W'=>(∃ v,e=.returned v)∧∃ xs,Good xs∧J xs W'∧GY w.heap.size (l :: T) W W'
def Zc (I:World→Prop) (b:Nat) (T:List Nat) (W:World):Exit→Act→World→Prop
 | .normal,_,W'=>I W'∧GY b T W W'
 | _,_,_=>False
theorem V2 {α:Type} {n:Nat} {g:Operand} {ps:Array Tmp} {assign body:Code} {Q:Exit→Act→World→Prop} {a:Act} {w:World} {gf:Nat} {lb:Array Value} (hg:a.eval g=.func (.func gf) #[] lb)
  (eg:∀ args w,(callFunc gf args).run prog w=.ok (.enter gf args) w) {encs:α→Array Value} {cond:List α→α→Prop} {Good:List α→Prop} {T:List Nat} (hT:∀ t∈T,t<w.heap.size) (hseq:lQ gf lb encs cond Good T w) (hps:∀ x,(encs x).size=ps.size)
  (I:List α→World→Prop) (hI:∀ pre W1 W2,I pre W1→GU w.heap.size W1 W2→I pre W2) (h0:I [] w) (Ax:α→Act→World→Prop) (hAx:∀ x a' W1 W2,Ax x a' W1→AA [w.heap.size+1] W1 W2→Ax x a' W2)
  (hassign:∀ (l:Nat) (pre:List α) (x:α) (W:World) (K:Act→World→Prop),w.heap.size+1<W.heap.size→I pre W→cond pre x→(∀ a' W',Ax x a' W'→AA [] W W'→K a' W') →
   assign.wpIn (Fence.wide.inRound l) (n - 1 - 1) prog (Exit.then K (fun _ _ _=>False)) { tmps:=(ps.zip (encs x)).foldl (fun t (p,v)=>t.setIfInBounds p v) a.tmps,defers:=[] } W)
  (hbody:∀ (l:Nat) (pre:List α) (x:α) (a':Act) (W:World),w.heap.size+1<W.heap.size→I pre W→cond pre x→Ax x a' W→body.wpIn (Fence.wide.inRound l) (n - 1 - 1) prog (Zc (I (pre++[x])) w.heap.size T W) a' W)
  (hdone:∀ (xs:List α) (W:World),Good xs→I xs W→AA T w W→w.heap.size<W.heap.size→W.heap[w.heap.size]?=some (.deferred (some []))→Q .normal { a with defers:={ target:=.collected w.heap.size,args:=#[] } :: a.defers } W) :
  (Code.rangeFunc g ps assign body).wpIn Fence.wide n prog Q a w:=by
 refine wpIn_rangeFunc ?_;intro fn hfn;show ∃ l mark w₁ d w₁' f args w₂,(Instr.enterLoop fn a.tmps ps assign body none).run prog w=_∧_;let rec1:LoopState→Loop:=fun st=>{ state:=st,pending:=none,fn,tmps:=a.tmps,params:=ps,assign,body,defers:=w.heap.size };obtain ⟨W1,hW1⟩:∃ W1,(w.alloc (.deferred (some []))).alloc (.loop (rec1 .ready))=W1:=⟨_,rfl⟩;have k1:AA [] w W1:=by rw [←hW1];exact (AA.alloc _ _ _).trans (AA.alloc _ _ _)
 have hD1:W1.heap[w.heap.size]?=some (.deferred (some [])):=by
  rw [←hW1];exact (Go.RowKit.Below.heap_alloc _ _ _ (by simp)).trans (World.alloc_heap_new w _)
 have hL1:W1.heap[w.heap.size+1]?=some (.loop (rec1 .ready)):=by
  rw [←hW1];have:=World.alloc_heap_new (w.alloc (.deferred (some []))) (.loop (rec1 .ready));rwa [World.size_alloc] at this
 have hs1:W1.heap.size=w.heap.size+1+1:=by rw [←hW1];simp
 refine ⟨w.heap.size+1,[{ target:=.collected w.heap.size,args:=#[] }],W1,{ target:=.fn (.func gf) lb,args:=#[.func (.yield (w.heap.size+1)) #[] #[]] },W1,gf,
  #[.func (.yield (w.heap.size+1)) #[] #[]]++lb,W1,?_,?_,fun _ _=>trivial,?_,fun h=>(nomatch h),?_⟩
 ·rw [←hW1];exact run_enterLoop_outer _ _ _ _ _
 ·simp only [resolve,hg];simp [go_sem]
 ·simp [invoke,go_sem,eg]
 ·refine (hseq (n - 1) (w.heap.size+1) (fun pre W=>I pre W∧W.heap[w.heap.size+1]?=some (.loop (rec1 .ready))∧W.heap[w.heap.size]?=some (.deferred (some []))) W1 (by omega) (by omega)
   (k1.below (AQ _) (by simp)) ?_ ?_ ⟨hI _ _ _ h0 (k1.still (by simp)),hL1,hD1⟩).mono ?_
  ·rintro pre A B ⟨i,l,d⟩ hb;exact ⟨hI _ _ _ i (hb.mono (by omega)),(hb.block _ (AO.1 l).1 (.inl (by omega))).trans l,(hb.block _ (AO.1 d).1 (.inl (by omega))).trans d⟩
  ·rintro pre x W ⟨hi,hl,hd⟩ hc;have hlt:w.heap.size+1<W.heap.size:=(AO.1 hl).1;refine ⟨fn,_,assign,body,run_yield (P:=prog) (args:=encs x) hl (hps x),roundIn_of_wpIn trivial (hassign _ pre x W _ hlt hi hc ?_)⟩;intro a' W' hax hk;have hl':W'.heap[w.heap.size+1]?=some (.loop (rec1 .ready)):=(hk.block _ hlt (by simp)).trans hl;have hd':W'.heap[w.heap.size]?=some (.deferred (some [])):=(hk.block _ (by omega) (by simp)).trans hd;have hlt':w.heap.size+1<W'.heap.size:=(AO.1 hl').1;have hi':I pre W':=hI _ _ _ hi (hk.still (by simp));have k2:=AA.putObj W' (w.heap.size+1) (.loop (rec1 .busy));have hl2:(W'.putObj (w.heap.size+1) (.loop (rec1 .busy))).heap[w.heap.size+1]?=some (.loop (rec1 .busy)):=World.putObj_heap_same hlt';have hd2:(W'.putObj (w.heap.size+1) (.loop (rec1 .busy))).heap[w.heap.size]?=some (.deferred (some [])):=(World.putObj_heap_other (by omega)).trans hd';refine ⟨_,run_beginRound hl' rfl,?_⟩;refine wpIn_mono (hbody _ pre x a' (W'.putObj (w.heap.size+1) (.loop (rec1 .busy))) (AO.1 hl2).1 (hI _ _ _ hi' (k2.still (by simp only [AF];rintro i rfl;exact ⟨by omega,by rw [hl'];intro _ _ _ e;cases e⟩))) hc (hAx _ _ _ _ hax k2)) ?_;rintro e a3 W3 hp;cases e with
   | normal=>
    obtain ⟨hi3,k3⟩:=hp;have hl3:W3.heap[w.heap.size+1]?=some (.loop (rec1 .busy)):=(k3.block _ (AO.1 hl2).1 (fun x=>by have:=hT _ x;omega) (.inr (by rw [hl2];intro _ _ _ e;cases e))).trans hl2;have hd3:W3.heap[w.heap.size]?=some (.deferred (some [])):=(k3.block _ (AO.1 hd2).1 (fun x=>by have:=hT _ x;omega) (.inr (by rw [hd2];intro _ _ _ e;cases e))).trans hd2;have hlt3:=(AO.1 hl3).1;have k4:=AA.putObj W3 (w.heap.size+1) (.loop (rec1 .ready));refine ⟨_,_,run_endRound none hl3,rfl,⟨hI _ _ _ hi3 (k4.still (by simp only [AF];rintro i rfl;exact ⟨by omega,by rw [hl3];intro _ _ _ e;cases e⟩)),World.putObj_heap_same hlt3,(World.putObj_heap_other (by omega)).trans hd3⟩,?_⟩;exact (((hk.grows (by simp)).trans (k2.grows (by simp))).trans (k3.mono (fun i hi=>AP _ hi))).trans (k4.grows (by simp))
   | ret=>exact hp.elim
   | exit id=>exact hp.elim
   | goto t=>exact hp.elim
   | panic c=>exact hp.elim
   | outgrown=>exact hp.elim
  ·rintro e W2 ⟨⟨v,rfl⟩,xs,hG,⟨hi,hl,hd⟩,k2⟩;have k5:=AA.putObj W2 (w.heap.size+1) (.loop (rec1 .exhausted));have hlt2:=(AO.1 hl).1;refine ⟨none,_,run_endLoop hl (by simp [rec1]),?_⟩;refine hdone xs _ hG (hI _ _ _ hi (k5.still (by simp only [AF];rintro i rfl;exact ⟨by omega,by rw [hl];intro _ _ _ e;cases e⟩))) ?_ (by simp;omega) ((World.putObj_heap_other (by omega)).trans hd);refine (k1.mono (T':=T) (by simp)).trans_grows (k2.trans (k5.grows (by simp))) ?_;intro i hi;rcases AG.1 hi with e | x
   ·exact .inr (by omega)
   ·exact .inl x
end
section
open Go.RowKit Go.Shelf
attribute [local go_sem] Oper.semAt_some
def Lx:Value→Nat
 | .slice _ n _=>n
 | _=>0
def R5 (w:World) (r:Nat):Nat:=match w.heap[r]? with
 | some (.map es _)=>es.size
 | _=>0
theorem JI {α β:Type} {ek:α→Value} {ev:β→Value} {w:World} {r:Nat} {L:List (α×β)} (h:Bi ek ev w r L):R5 w r=L.length:=by
 obtain ⟨es,clock,h1,h2,_⟩:=h;have:=congrArg List.length h2;simp only [AY,Array.length_toList] at this;simp [R5,h1,this]
def eN (x:Int×GK):Array Value:=#[.int .i64 x.1,.agg #[.int .i64 x.2.1,.int .i64 x.2.2.1,.int .i64 x.2.2.2]]
theorem JS.few {S:ST} (hw:WF S) {roots ws:List Int} {xs:List (Int×GK)} (hr:Fz S roots) (h:JS S roots ws xs) (hn:S.n≤12) (hl:roots.length≤1000):xs.length≤100000000:=by
 have h1:=KH S.N S.n roots
 have h2:=Ml (xs.map Prod.fst) (roots.flatMap (Jk S.N S.n)) h.nodup (fun f hf=>by
  obtain ⟨p,hp,rfl⟩:=AM.1 hf
  exact V1 hw hr (h.reach p hp))
 rw [AY] at h2;have h3:Ge S.n≤4095:=dZ hn;have h4:(roots.length:Int) * Ge S.n≤1000 * 4095:=Int.mul_le_mul (by omega) h3 (EX _) (by omega);omega
theorem V7 {w:World} {B:SB} {S:ST} (hS0:Aj w B S) (hw:WF S) (pr ps g0 c0:Nat) (roots:List Int) (hpr0:AK w pr #[.slice (some ⟨g0,0,none⟩) roots.length c0]) (hps0:AK w ps #[.pointer (some ⟨B.b,0,none⟩)]) (hrow0:B8 w g0 roots) (hr:Fz S roots)
  (hlen:roots.length≤1000) (hN:∀ xs ws,JS S roots ws xs→xs.length≤100000000) (T:List Nat) (hT:∀ t∈T,t<w.heap.size∧t∉B.own∧t≠ps) :
  nB 280 #[.pointer (some ⟨pr,0,none⟩),.pointer (some ⟨ps,0,none⟩)] eN (fun pre x=>DD S.N x.1=some x.2∧pre.length<S.N.length) (Q6 S roots) T w:=by
 obtain ⟨i0,hi0,hz0,hz1,hz2⟩:=info_parts MD;intro n l J W hl hlW hb hJ hY h0;have hS:=hS0.of_heap (w':=W) (fun i hi=>hb.block i (hS0.lt i hi));have hpr:=hpr0.of_heap (w':=W) (hb.block pr hpr0.lt);have hps:=hps0.of_heap (w':=W) (hb.block ps hps0.lt);have hrow:=hrow0.of_heap (w':=W) (hb.block g0 hrow0.lt);have hmm:=@run_makeMap prog;have k1:=AA.alloc [] W (.map #[] 0);have hpr1:=hpr.keeps k1;have hps1:=hps.keeps k1;have hrow1:=hrow.kept k1 (by simp);have hS1:=hS.keeps k1;have hM1:Bi eI eU (W.alloc (.map #[] 0)) W.heap.size ([]:List (Int×Unit)):=Bi.new W 0;have p0:=hpr1.cell 0;simp at p0;have HY:=AD hY;have HJ:=AD hJ;clear hY hJ;have hc:=AD (Uv (cap:=c0) hrow1 (by omega));refine callsIn_of_wp func280 rfl trivial ?_ rfl;simp only [ntmps280,Bw,AU,Ao,Nat.reduceAdd,Nat.reduceSub,B0,Bz,CW,Bo,BM,A8];gi_wp2_with fail
 refine ⟨trivial,fun h=>(nomatch h),?_⟩;refine (callsIn_wide.2 hc.out).mono ?_;rintro e W2 ⟨v,rfl,hv,k2,hvn⟩;have hex:∃ g cap,v=.slice (some ⟨g,0,none⟩) roots.length cap:=by
  rcases hv.2 with ⟨e,_⟩ | ⟨g,cap,cur,e,_⟩
  ·exact absurd e hvn
  ·exact ⟨g,cap,e⟩
 obtain ⟨g1,cap1,hv1⟩:=hex;subst hv1;have hM2:=hM1.kept k2 (by simp);have kk2:AA (l :: T) W W2:=((k1.trans k2).mono (by simp));have hv2:W2.ownsRow W.heap.size 3 1 (.slice (some ⟨g1,0,none⟩) roots.length cap1) roots.length (ints roots):=Fq hv (by simp);have hJ2:J [] W2:=HJ.out _ _ _ h0 ((k1.trans k2).below (AQ _) (by simp));clear hv hvn hc p0 hrow1 hpr1 hpr hrow hM1;gi_wp2_with fail
 gi_loopw [5] (fun t wr=>∃ (g cap:Nat) (ws:List Int) (xs:List (Int×GK)),t=.slice (some ⟨g,0,none⟩) ws.length cap∧wr.ownsRow W.heap.size 3 1 t ws.length (ints ws)∧Bi eI eU wr W.heap.size (xs.map fun x=>(x.1,()))∧JS S roots ws xs∧J xs wr∧AA (l :: T) W wr∧ws.length≤roots.length+2 * xs.length)
  (fun t wr=>Lx t+3 * (S.N.length - R5 wr W.heap.size))
 case atStart=>exact ⟨g1,cap1,roots,[],rfl,hv2,hM2,JS.start hr,hJ2,kk2,by simp⟩
 case round=>
  obtain ⟨g,cap,ws,xs,rfl,hrow,hmap,hinv,hJs,hkp,hwl⟩:=hrel;clear hv2 hM2 hJ2 kk2 k2 hS1 hps1
  have hSr:=hS.keeps hkp (fun i hi x=>by
   rcases AG.1 x with e | x
   ·have:=hS0.lt i hi;omega
   ·exact (hT _ x).2.1 hi)
  have hpsr:=hps.keeps hkp (fun x=>by
   rcases AG.1 x with e | x
   ·have:=hps0.lt;omega
   ·exact (hT _ x).2.2 rfl)
  have hms:=JI hmap;rw [AY] at hms;have hxl:=hinv.length;have hxb:=hN _ _ hinv;have Hms:=AD hms;clear hms;rcases List.eq_nil_or_concat ws with rfl | ⟨ws',f,rfl⟩
  ·simp only [Ao] at hrow ⊢;gi_wp2
   go_end0
   exact ⟨⟨_,rfl⟩,xs,hinv.done,hJs,hkp⟩
  ·rw [List.concat_eq_append] at *;simp only [AJ,AU,Ao,Ag] at hrow hwl ⊢;have hcell:wr.cell? ⟨g,ws'.length,none⟩=some (.int .i64 f):=L6 hrow (by simp);have hat:=Ol hrow
   have hrow':wr.ownsRow W.heap.size 3 1 (.slice (some ⟨g,0,none⟩) ws'.length cap) ws'.length (ints ws'):=
    ownsRow_pop (xs:=ints ws') (last:=[.int .i64 f]) (by simp [ints]) (by simpa [ints] using hrow)
   have hk63:(ws'.length:Int)≤9223372036854775806:=(by omega);have Hrow:=AD hrow;clear hrow;cases hsn:DD (xs.map fun x=>(x.1,())) f with
   | some u=>
    have hlk:=EM (P:=prog) underlying338 In (z:=.agg #[]) Q9 hmap f true;simp only [hsn,A5,BU,eI,eU,CG,if_true] at hlk;have hfm:f∈xs.map Prod.fst:=by
     have:=FE hsn;obtain ⟨x,hx,e⟩:=AM.1 this;simp only [Prod.mk.injEq] at e;exact AM.2 ⟨x,hx,e.1⟩
    clear hsn;have kA:=AA.alloc [] wr (.cells #[] 339);have hmA:=hmap.kept kA (by simp);have hmsA:=JI hmA;rw [AY] at hmsA;have HmsA:=AD hmsA;clear hmsA;gi_wp2_with fail
    refine ⟨⟨g,cap,ws',xs,rfl,AH hrow' kA,hmA,hinv.skip (.inl hfm),HJ.out _ _ _ hJs (kA.below hkp.size (by simp)),hkp.trans (kA.mono (by simp)),by omega⟩,?_⟩;rw [Hms.out,HmsA.out];simp only [Lx];omega
   | none=>
    have hlk:=EM (P:=prog) underlying338 In (z:=.agg #[]) Q9 hmap f true;simp only [hsn,Cb,CB,eI,B6,if_true] at hlk;have hfm:f∉xs.map Prod.fst:=by
     intro hx;obtain ⟨x,hx,e⟩:=AM.1 hx;exact JK.1 hsn (x.1,()) (AM.2 ⟨x,hx,rfl⟩) e
    have Hsn:=AD hsn;clear hsn;have kA:=AA.alloc [] wr (.cells #[] 339);have hmA:=hmap.kept kA (by simp);by_cases f1:f≤1
    ·have hmsA:=JI hmA;rw [AY] at hmsA;have HmsA:=AD hmsA;clear hmsA;gi_wp2_with fail
     refine ⟨⟨g,cap,ws',xs,rfl,AH hrow' kA,hmA,hinv.skip (.inr f1),HJ.out _ _ _ hJs (kA.below hkp.size (by simp)),hkp.trans (kA.mono (by simp)),by omega⟩,?_⟩;rw [Hms.out,HmsA.out];simp only [Lx];omega
    ·have f2:2≤f:=(by omega);have hd1:decide (f≤1)=false:=by simp;omega
     obtain ⟨v,lo,hi,ht⟩:∃ v lo hi,DD S.N f=some (v,lo,hi):=by
      rcases (hinv.wok f (by simp)).1 with e | e | ⟨_,⟨a,b,c⟩,ht⟩
      ·omega
      ·omega
      ·exact ⟨a,b,c,ht⟩
     have hinv':=hinv.take hw hfm f2 ht;have hxl':=hinv'.length;simp only [AJ,AU,Ao] at hxl';obtain ⟨o,hrun,hmB⟩:=Fm (P:=prog) underlying338 In hmA f ();simp only [eI,eU] at hrun;have kB:AA [W.heap.size] (wr.alloc (.cells #[] 339)) (blk (wr.alloc (.cells #[] 339)) W.heap.size o):=AA.blk _ _ _;have hWr:W.heap.size<wr.heap.size:=hmap.lt;have kAB:AA [W.heap.size] wr (blk (wr.alloc (.cells #[] 339)) W.heap.size o):=(kA.mono (by simp)).trans kB;have hSB:=hSr.keeps kAB (fun i hi x=>by have:=hS0.lt i hi;have:=hb.size;simp at x;omega);have hpsB:=hpsr.keeps kAB (by have:=hps0.lt;have:=hb.size;simp;omega);have hsB:(blk (wr.alloc (.cells #[] 339)) W.heap.size o).heap.size=wr.heap.size+1:=(by simp [blk]);have cps:=hpsB.cell 0;have c2:=hSB.head.cell 2;simp at cps c2;have hl71:=look71' hSB ht;have kC:=AA.alloc [] (blk (wr.alloc (.cells #[] 339)) W.heap.size o) (.cells #[.int .i64 v,.int .i64 lo,.int .i64 hi] 228);have hNC:=AK.new (blk (wr.alloc (.cells #[] 339)) W.heap.size o) #[.int .i64 v,.int .i64 lo,.int .i64 hi] 228;have kABC:=kAB.trans (kC.mono (by simp));have hJC:J xs _:=HJ.out _ _ _ hJs (kABC.below hkp.size (by simp));have hmC:=hmB.kept kC (by simp)
     have hrowC:=AH hrow' kABC (fun i e=>by
      simp only [Value.ownBlock,BD] at e;subst e;intro x;simp only [AF] at x;obtain ⟨es,ck,h1,_⟩:=hmap;rcases hrow'.2 with ⟨h2,_⟩ | ⟨_,_,_,e2,_,hh,_⟩
      ·cases h2
      ·cases e2;rw [x,h1] at hh;cases hh)
     obtain ⟨fn,tmps,assign,body,hy,hR⟩:=HY.out xs (f,(v,lo,hi)) _ hJC ⟨ht,by omega⟩;simp only [eN] at hy;gi_wp2_with fail
     refine ⟨fun h=>(nomatch h),?_⟩;refine hR.mono ?_;rintro e W3 ⟨rfl,hJ3,k3⟩;have hlT:∀ i,W.heap.size≤i→i∉l :: T:=fun i hi x=>by
      rcases AG.1 x with e | x
      ·omega
      ·have:=(hT _ x).1;have:=hb.size;omega
     rw [hsB] at hNC;have hN3:=hNC.keeps k3 (hlT _ (by omega))
     have hrow3:=AH hrowC k3 (fun i e=>by
      simp only [Value.ownBlock,BD] at e
      exact hlT _ (by omega))
     have hm3:=hmC.kept k3 (hlT _ (AQ _));have k4:=AA.alloc [] W3 (.cells #[.int .i64 hi,.int .i64 lo] 3);have hrow4:=AH hrow3 k4;have hcell4:∀ (j:Nat) (u:Value),(ints [hi,lo])[j]?=some u→(W3.alloc (.cells #[.int .i64 hi,.int .i64 lo] 3)).cell? ((⟨W3.heap.size,0,none⟩:Addr).add j)=some u:=by
      intro j u hu;rw [Addr.add_lit,Ag,(AK.new W3 #[.int .i64 hi,.int .i64 lo] 3).cell j];rw [←hu,←List.getElem?_toArray];rfl
     have hsz3:W.heap.size≤W3.heap.size:=by have:=k3.size;have:=kABC.size;omega
     have n1:=hN3.cell 1;have n2:=hN3.cell 2;simp at n1 n2;clear hR hy hl71 cps c2 hrun hlk hcell;gi_wp2_with (gi_at_builtin;refine wpListIn_append_own _ rfl _ _ 40 rfl W.heap.size 3 i0 (.int .i64 0) 1 8 underlying40 hi0 hz0 hz1 hz2 rfl (by decide) _ ws'.length (ints ws') rfl hrow4 ⟨W3.heap.size,0,none⟩ 2 2 (ints [hi,lo]) rfl (by simp [ints]) hcell4 (FP _) (by unfold maxLen;omega) (by omega) (by simp;omega) ?_)
     intro v' W5 hown' hgrow hnil;have hex:∃ g' cap',v' = .slice (some ⟨g',0,none⟩) (ws'.length+2) cap':=by
      rcases hown'.2 with ⟨e,e2⟩ | ⟨g',cap',cur,e,_⟩
      ·omega
      ·exact ⟨g',cap',e⟩
     obtain ⟨g',cap',hv'⟩:=hex;subst hv'
     have k5:AA [g] (W3.alloc (.cells #[.int .i64 hi,.int .i64 lo] 3)) W5:=grownBy_keeps' hgrow [g] (fun r e=>by
      simp only [Value.ownBlock,BD] at e
      exact .inl (by simp [e]))
     have hgm:W.heap.size≠g:=fun e=>by
      obtain ⟨es,ck,h1,_⟩:=hm3;rcases hrow3.2 with ⟨h2,_⟩ | ⟨_,_,_,e2,_,hh,_⟩
      ·cases h2
      ·cases e2;rw [←e,h1] at hh;cases hh
     have hm5:=(hm3.kept k4 (by simp)).kept k5 (by simpa using hgm);have hms5:=JI hm5;have Hms5:=AD hms5;clear hms5 hnil;have hput:put (xs.map fun x=>(x.1,())) f ()=(xs++[(f,(v,lo,hi))]).map fun x=>(x.1,()):=by
      unfold put;rw [Hsn.out];simp
     have Hput:=AD hput;clear hput;gi_wp2_with fail
     refine ⟨⟨g',cap',ws'++[hi,lo],xs++[(f,(v,lo,hi))],by simp,?_,?_,hinv',?_,?_,?_⟩,?_⟩
     ·have:ints (ws'++[hi,lo])=ints ws'++ints [hi,lo]:=(by simp [ints]);rw [this];simpa using hown'
     ·rw [←Hput.out];exact hm5
     ·exact HJ.out _ _ _ hJ3 ((k4.mono (T':=[g]) (by simp)).trans k5 |>.below hsz3 (by simp;exact hat.1))
     ·refine ((hkp.trans_new kABC (by simp)).trans k3).trans_new ((k4.mono (T':=[g]) (by simp)).trans k5) ?_;intro i hi;simp only [AF] at hi;exact .inr (by omega)
     ·simp only [AJ,AU,Ao];omega
     ·rw [Hms.out,Hms5.out,Hput.out];simp only [Lx,AY,AJ,AU,Ao];omega
end
section
open Go.RowKit Go.Shelf
theorem T5 (w:World) (p:Addr) (s:Option Addr) (n c:Nat) :
  Calls prog 236 #[.pointer (some p),.slice s n c] w fun e w'=>e=.returned (.func (.func 280) #[] #[.pointer (some ⟨w.heap.size+1,0,none⟩),.pointer (some ⟨w.heap.size,0,none⟩)]) ∧
   w' = (w.alloc (.cells #[.pointer (some p)] 135)).alloc (.cells #[.slice s n c] 40):=by
 go_in
 go_wp2
 go_ret
 exact ⟨rfl,rfl⟩
theorem size_alloc' (w:World) (o:Obj):(w.alloc o).heap.size=w.heap.size+1:=by simp
theorem Aj.fresh' {w:World} {B:SB} {S:ST} (h:Aj w B S) {i:Nat} (hi:w.heap.size≤i):i∉B.own:=fun x=>by have:=h.lt _ x;omega
attribute [local go_sem] Oper.semAt_some
end
section
open Go.RowKit
section
variable {P:Program} {K:TypeId} {α β:Type} {ek:α→Value} {ev:β→Value}
def Dj (ek:α→Value) (ev:β→Value) (w:World) (rm it:Nat) (L:List (α×β)) (left:List α):Prop:=
 ∃ es clock since seen c0,w.heap[rm]?=some (.map es clock)∧es.toList.map (fun e=>(e.key,e.val))=L.map (fun p=>(ek p.1,ev p.2)) ∧
  (es.toList.map (·.born)).Nodup∧(∀ e∈es.toList,e.born<clock)∧(L.map Prod.fst).Nodup ∧
  w.heap[it]?=some (.mapIter (some rm) since seen c0)∧(∀ e∈es.toList,e.born<since)∧since≤c0∧since≤clock ∧
  (leftOf es seen).toList.map (·.key)=left.map ek
theorem Dj.is {w:World} {rm it:Nat} {L:List (α×β)} {left:List α} (h:Dj ek ev w rm it L left):Bi ek ev w rm L:=by
 obtain ⟨es,clock,since,seen,c0,h1,h2,h3,h4,h5,h6⟩:=h;exact ⟨es,clock,h1,h2,h3,h4,h5⟩
theorem Dj.of_heap {w w':World} {rm it:Nat} {L:List (α×β)} {left:List α} (h:Dj ek ev w rm it L left) (e1:w'.heap[rm]?=w.heap[rm]?) (e2:w'.heap[it]?=w.heap[it]?):Dj ek ev w' rm it L left:=by
 obtain ⟨es,clock,since,seen,c0,h1,h2,h3,h4,h5,h6,h7⟩:=h;exact ⟨es,clock,since,seen,c0,e1.trans h1,h2,h3,h4,h5,e2.trans h6,h7⟩
theorem Dj.it_lt {w:World} {rm it:Nat} {L:List (α×β)} {left:List α} (h:Dj ek ev w rm it L left):it<w.heap.size:=by
 obtain ⟨es,clock,since,seen,c0,h1,h2,h3,h4,h5,h6,h7⟩:=h;exact (AO.1 h6).1
theorem Dj.ne {w:World} {rm it:Nat} {L:List (α×β)} {left:List α} (h:Dj ek ev w rm it L left):rm≠it:=by
 obtain ⟨es,clock,since,seen,c0,h1,h2,h3,h4,h5,h6,h7⟩:=h;intro e;rw [e,h6] at h1;cases h1
theorem Dy (es:Array MapEntry) (seen:Array Nat):(leftOf es seen).toList=es.toList.filter (fun e=>!seen.contains e.born):=by
 unfold leftOf;simp
theorem Ra {T E:TypeId} (ht:P.underlying T=some (.map K E)) {w:World} {r:Nat} {L:List (α×β)} (h:Bi ek ev w r L) :
  ∃ o,(Instr.range T (.map (some r))).run P w=.ok (.pointer (some ⟨w.heap.size,0,none⟩)) (w.alloc o)∧Dj ek ev (w.alloc o) r w.heap.size L (L.map Prod.fst):=by
 obtain ⟨es,clock,h1,h2,h3,h4,h5⟩:=h;refine ⟨.mapIter (some r) clock #[] clock,?_,es,clock,clock,#[],clock,?_,h2,h3,h4,h5,(MapKept.heap_alloc w _).1,h4,AQ _,AQ _,?_⟩
 ·unfold Instr.range;simp only [Sem.run_bind,run_underlying ht,Result.andThen_ok,MapKept.run_getObj_map h1];rfl
 ·exact ((MapKept.heap_alloc w _).2 r (AO.1 h1).1).trans h1
 ·rw [Dy];have:es.toList.filter (fun e=>!(#[]:Array Nat).contains e.born)=es.toList:=by rw [List.filter_eq_self];intro a _;simp
  rw [this];have:=congrArg (List.map Prod.fst) h2;simpa [List.map_map,Function.comp_def] using this
theorem IS {γ δ:Type} {f:γ→δ}:∀ {l:List γ},(l.map f).Nodup→∀ x∈l,∀ y∈l,f x=f y→x=y
 | [],_,x,hx,_,_,_=>by cases hx
 | a :: l,h,x,hx,y,hy,e=>by
  simp only [Au,DH] at h;rcases AG.1 hx with ex | hx2
  ·rcases AG.1 hy with ey | hy2
   ·rw [ex,ey]
   ·exact absurd (AM.2 ⟨y,hy2,by rw [←e,ex]⟩) h.1
  ·rcases AG.1 hy with ey | hy2
   ·exact absurd (AM.2 ⟨x,hx2,by rw [e,ey]⟩) h.1
   ·exact IS h.2 x hx2 y hy2 e
theorem Ku {γ δ:Type} {f:γ→δ} (hf:∀ a b,f a=f b→a=b):∀ {l:List γ},l.Nodup→(l.map f).Nodup
 | [],_=>by simp
 | a :: l,h=>by
  simp only [DH,Au] at h ⊢;exact ⟨fun x=>by obtain ⟨b,hb,e⟩:=AM.1 x;exact h.1 (hf _ _ e ▸ hb),Ku hf h.2⟩
theorem NT [DecidableEq α] (hinj:∀ a b,ek a=ek b→a=b) (a:α) (b:Nat):∀ (l:List MapEntry) (left:List α),l.map (·.key)=left.map ek→(∀ e∈l,e.born=b↔e.key=ek a) →
  (l.filter (fun e=>decide (e.born≠b))).map (·.key)=(left.filter (fun c=>decide (c≠a))).map ek
 | [],[],_,_=>by simp
 | [],_ :: _,h,_=>by simp at h
 | _ :: _,[],h,_=>by simp at h
 | e :: l,c :: left,h,hb=>by
  simp only [Au,CH] at h;have ih:=NT hinj a b l left h.2 (fun x hx=>hb x (AP _ hx));have hiff:=hb e (by simp);by_cases hc:c=a
  ·have e1:e.born=b:=hiff.2 (by rw [h.1,hc]);rw [BS (by simp [e1]),BS (by simp [hc])];exact ih
  ·have e1:e.born≠b:=fun x=>hc (hinj _ _ (by rw [←h.1];exact hiff.1 x));rw [BO (by simpa using e1),BO (by simpa using hc),Au,Au,h.1,ih]
theorem Dj.next [DecidableEq α] (hinj:∀ a b,ek a=ek b→a=b) {w:World} {rm it:Nat} {L:List (α×β)} {left:List α} (h:Dj ek ev w rm it L left) (ty:TypeId) :
  (left=[]∧(Instr.next (.pointer (some ⟨it,0,none⟩)) false ty).run P w=.ok (.tuple #[.bool false]) w) ∨
  ∃ a v w',a∈left∧DD L a=some v∧(Instr.next (.pointer (some ⟨it,0,none⟩)) false ty).run P w=.ok (.tuple #[.bool true,ek a,ev v]) w' ∧
   (Instr.entry (.pointer (some ⟨it,0,none⟩))).run P w' = .ok (.tuple #[ek a,ev v]) w' ∧
   Dj ek ev w' rm it L (left.filter (fun b=>decide (b≠a)))∧AA [it] w w'∧w'.heap.size=w.heap.size:=by
 have hne:=h.ne;obtain ⟨es,clock,since,seen,c0,h1,h2,h3,h4,h5,h6,h7,h8,hsc,h9⟩:=h;rcases run_next_at (P:=P) w ty it rm since c0 seen es clock h6 h1 h7 h8 with ⟨h0,hrun⟩ | ⟨e,he,w1,hw1,hrun⟩
 ·left;refine ⟨?_,hrun⟩;have:(leftOf es seen).toList=[]:=by rw [←List.length_eq_zero_iff];simpa using h0
  rw [this] at h9;simpa using h9.symm
 ·right;have hmem:e∈es.toList:=by rw [Dy] at he;exact (Ai.1 he).1
  have hns:seen.contains e.born=false:=by rw [Dy] at he;simpa using (Ai.1 he).2
  obtain ⟨p,hp,hpe⟩:∃ p∈L,(ek p.1,ev p.2)=(e.key,e.val):=by
   have:(e.key,e.val)∈L.map (fun p=>(ek p.1,ev p.2)):=by rw [←h2];exact AM.2 ⟨e,hmem,rfl⟩
   obtain ⟨p,hp,hq⟩:=AM.1 this;exact ⟨p,hp,hq⟩
  obtain ⟨a,v⟩:=p;simp only [Prod.mk.injEq] at hpe;obtain ⟨hk,hv⟩:=hpe;have hal:a∈left:=by
   have:e.key∈left.map ek:=by rw [←h9];exact AM.2 ⟨e,he,rfl⟩
   obtain ⟨b,hb,hbe⟩:=AM.1 this;rw [←hk] at hbe;rwa [←hinj _ _ hbe]
  have hw1h:w1.heap=w.heap:=by rcases hw1 with rfl | rfl <;> rfl
  have hblk:(ChangeMaps.setBlock w1 it (.mapIter (some rm) since (seen.push e.born) clock))=blk w1 it (.mapIter (some rm) since (seen.push e.born) clock):=rfl;rw [hblk] at hrun;have hit1:w1.heap[it]?=some (.mapIter (some rm) since seen c0):=by rw [hw1h];exact h6
  have hit:(blk w1 it (.mapIter (some rm) since (seen.push e.born) clock)).heap[it]?=some (.mapIter (some rm) since (seen.push e.born) clock):=GS hit1;have hrm:(blk w1 it (.mapIter (some rm) since (seen.push e.born) clock)).heap[rm]?=some (.map es clock):=by rw [CQ _ hne,hw1h];exact h1
  refine ⟨a,v,_,hal,We h5 hp,by rw [hk,hv];exact hrun,?_,?_,?_,?_⟩
  ·rw [hk,hv];exact run_entry_at _ it rm since seen es clock e hit hrm hmem h3
  ·refine ⟨es,clock,since,seen.push e.born,clock,hrm,h2,h3,h4,h5,hit,h7,hsc,hsc,?_⟩
   ·have hkn:(es.toList.map (·.key)).Nodup:=by
     have e1:es.toList.map (·.key)=(L.map Prod.fst).map ek:=by
      have:=congrArg (List.map Prod.fst) h2;simpa [List.map_map,Function.comp_def] using this
     rw [e1];exact Ku hinj h5
    have e2:(leftOf es (seen.push e.born)).toList=(leftOf es seen).toList.filter (fun x=>decide (x.born≠e.born)):=by
     rw [Dy,Dy,List.filter_filter];apply List.filter_congr;intro x _;simp only [Array.contains_push];by_cases hx:x.born=e.born
     ·simp [hx]
     ·simp [hx]
    rw [e2];refine NT hinj a e.born _ _ h9 (fun x hx=>?_);have hxm:x∈es.toList:=by rw [Dy] at hx;exact (Ai.1 hx).1
    constructor
    ·intro hb;rw [IS h3 x hxm e hmem hb,hk]
    ·intro hb;rw [IS hkn x hxm e hmem (by rw [hb,hk])]
  ·refine ⟨?_,?_,?_,?_,?_⟩
   ·rcases hw1 with rfl | rfl <;> rfl
   ·rcases hw1 with rfl | rfl <;> rfl
   ·rcases hw1 with rfl | rfl <;> rfl
   ·simp [blk,hw1h]
   ·intro i _ hi;rw [CQ _ (by simpa using hi),hw1h]
  ·simp [blk,hw1h]
theorem Dj.del [DecidableEq α] {T E:TypeId} (ht:P.underlying T=some (.map K E)) (hk:LD P K ek) (hinj:∀ a b,ek a=ek b→a=b) {w:World} {rm it:Nat} {L:List (α×β)} {left:List α} (h:Dj ek ev w rm it L left) (a:α) (ha:a∉left) (ty:TypeId) :
  ∃ o,(Builtin.delete_ #[T,K] ty #[.map (some rm),ek a]).run P w=.ok (.tuple #[]) (blk w rm o)∧Dj ek ev (blk w rm o) rm it (del L a) left:=by
 have hne:=h.ne;obtain ⟨es,clock,since,seen,c0,h1,h2,h3,h4,h5,h6,h7,h8,hsc,h9⟩:=h;have hcell:(#[Value.map (some rm),ek a])[0]?=some (.map (some rm)):=rfl;have hcell1:(#[Value.map (some rm),ek a])[1]?=some (ek a):=rfl;have hty:(#[T,K])[0]?=some T:=rfl;unfold Builtin.delete_;simp only [hcell,hcell1,hty,Sem.run_bind,run_underlying ht,Result.andThen_ok,MapKept.run_getObj_map h1,hk.check,FZ hk a w es.toList L h2];rcases Ih (ev:=ev) a L 0 with ⟨hs,hg⟩ | ⟨j,v0,hs,hg,hj⟩
 ·rw [hs,PH hg];refine ⟨.map es clock,?_,es,clock,since,seen,c0,GS h1,h2,h3,h4,h5,(CQ _ hne.symm).trans h6,h7,h8,hsc,h9⟩;rw [Sem.run_bind,MapKept.run_setObj_map _ h1];rfl
 ·rw [hs];have hlen:es.toList.length=L.length:=by have:=congrArg List.length h2;simpa using this
  have hjl:j<L.length:=(AL.1 hj).1;have hje:j<es.toList.length:=by rw [hlen];exact hjl
  have hE:(es.eraseIdxIfInBounds (0+j)).toList=es.toList.eraseIdx j:=by simp
  have hkey:(es.toList[j]).key=ek a:=by
   have:=congrArg (fun l:List (Value×Value)=>l[j]?) h2;simp only [AW,hj,A5,AB hje,BD,Prod.mk.injEq] at this;exact this.1
  refine ⟨.map (es.eraseIdxIfInBounds (0+j)) clock,?_,_,clock,since,seen,c0,GS h1,?_,?_,?_,Qh h5 a,(CQ _ hne.symm).trans h6,?_,h8,hsc,?_⟩
  ·rw [Sem.run_bind,MapKept.run_setObj_map _ h1];rfl
  ·rw [hE,PG h5 hj,ChangeMaps.map_eraseIdx,ChangeMaps.map_eraseIdx,h2]
  ·rw [hE,ChangeMaps.map_eraseIdx];exact h3.sublist (DX _ _)
  ·rw [hE];intro e he;exact h4 e ((DX _ _).mem he)
  ·rw [hE];intro e he;exact h7 e ((DX _ _).mem he)
  ·rw [Dy,hE,←h9,Dy];congr 1
   have hseen:(!seen.contains (es.toList[j]).born)=false:=by
    cases hc:(!seen.contains (es.toList[j]).born) with
    | false=>rfl
    | true=>
     exfalso;have hm:es.toList[j]∈(leftOf es seen).toList:=by rw [Dy];exact Ai.2 ⟨CC _,hc⟩
     have:(es.toList[j]).key∈left.map ek:=by rw [←h9];exact AM.2 ⟨_,hm,rfl⟩
     obtain ⟨b,hb,hbe⟩:=AM.1 this;rw [hkey] at hbe;exact ha (hinj _ _ hbe ▸ hb)
   have key:∀ (l:List MapEntry) (j:Nat) (hj:j<l.length),(!seen.contains (l[j]).born)=false→(l.eraseIdx j).filter (fun e=>!seen.contains e.born)=l.filter (fun e=>!seen.contains e.born):=by
    intro l;induction l with
    | nil=>intro j hj;simp at hj
    | cons x l ih=>
     intro j hj hb;cases j with
     | zero=>rw [List.eraseIdx_cons_zero,BS (by simpa using hb)]
     | succ j=>
      rw [List.eraseIdx_cons_succ];have:=ih j (by simpa using hj) (by simpa using hb);rw [CD,CD,this]
   exact key es.toList j hje hseen
end
end
section
open Go.RowKit Go.Shelf
structure LC (S:ST) (roots:List Int) (N':List (Int×GK)) (U':List (GK×Int)) (left:List Int):Prop where
 node:∀ f t,DD N' f=some t↔DD S.N f=some t∧(Ea S roots f∨f∈left)
 number:∀ t f,DD U' t=some f↔DD S.U t=some f∧(Ea S roots f∨f∈left)
theorem LC.start {S:ST} (hw:WF S) (roots:List Int):LC S roots S.N S.U (S.N.map Prod.fst):=
 ⟨fun _ _=>⟨fun h=>⟨h,.inr (AM.2 ⟨_,FE h,rfl⟩)⟩,fun h=>h.1⟩,fun t f=>⟨fun h=>⟨h,.inr (AM.2 ⟨_,FE ((hw.inv t f).1 h),rfl⟩)⟩,fun h=>h.1⟩⟩
theorem LC.stays {S:ST} {roots:List Int} {N':List (Int×GK)} {U':List (GK×Int)} {left:List Int} (h:LC S roots N' U' left) {f:Int} (hf:Ea S roots f):LC S roots N' U' (left.filter (fun b=>decide (b≠f))):=by
 have key:∀ g,(Ea S roots g∨g∈left)↔(Ea S roots g∨g∈left.filter (fun b=>decide (b≠f))):=by
  intro g;by_cases e:g=f
  ·subst e;exact ⟨fun _=>.inl hf,fun _=>.inl hf⟩
  ·simp [List.mem_filter,e]
 exact ⟨fun g t=>by rw [h.node,key],fun t g=>by rw [h.number,key]⟩
theorem LC.goes {S:ST} (hw:WF S) {roots:List Int} {N':List (Int×GK)} {U':List (GK×Int)} {left:List Int} (h:LC S roots N' U' left) {f:Int} {t:GK} (hf:¬ Ea S roots f) (ht:DD S.N f=some t):LC S roots (del N' f) (del U' t) (left.filter (fun b=>decide (b≠f))):=by
 have key:∀ g,g≠f→((Ea S roots g∨g∈left)↔(Ea S roots g∨g∈left.filter (fun b=>decide (b≠f)))):=by
  intro g e;simp [List.mem_filter,e]
 have no:¬ (Ea S roots f∨f∈left.filter (fun b=>decide (b≠f))):=by simp [List.mem_filter,hf]
 refine ⟨fun g u=>?_,fun u g=>?_⟩
 ·rw [Xt];by_cases e:g=f
  ·subst e;simp only [if_true];exact ⟨fun x=>(nomatch x),fun x=>absurd x.2 no⟩
  ·rw [if_neg e,h.node,key g e]
 ·rw [Xt];by_cases e:u=t
  ·subst e;simp only [if_true];refine ⟨fun x=>(nomatch x),fun x=>?_⟩;have h1:=(hw.inv _ _).2 ht;rw [h1] at x;have:=Ar x.1;subst this;exact absurd x.2 no
  ·rw [if_neg e,h.number];constructor
   ·rintro ⟨h1,h2⟩;have hne:g≠f:=fun e2=>by
     subst e2;have:=(hw.inv _ _).1 h1;rw [ht] at this;exact e (Ar this).symm
    exact ⟨h1,(key g hne).1 h2⟩
   ·rintro ⟨h1,h2⟩;have hne:g≠f:=fun e2=>by
     subst e2;exact no h2
    exact ⟨h1,(key g hne).2 h2⟩
def Mp (w:World) (it:Nat):Nat:=match w.heap[it]? with
 | some (.mapIter (some rm) _ seen _)=>(match w.heap[rm]? with
  | some (.map es _)=>(leftOf es seen).size
  | _=>0)
 | _=>0
theorem JJ {α β:Type} {ek:α→Value} {ev:β→Value} {w:World} {rm it:Nat} {L:List (α×β)} {left:List α} (h:Dj ek ev w rm it L left):Mp w it=left.length:=by
 obtain ⟨es,clock,since,seen,c0,h1,h2,h3,h4,h5,h6,h7,h8,hsc,h9⟩:=h;have:=congrArg List.length h9;simp only [AY,Array.length_toList] at this;simp [Mp,h6,h1,this]
theorem dU (a b:Int) (h:eI a=eI b):a=b:=by cases h;rfl
def fS (Q:Exit→Act→World→Prop):Exit→Act→World→Prop
 | .panic _,_,_=>False
 | e,a,w=>Q e a w
theorem fS.normal {Q:Exit→Act→World→Prop} {a:Act} {w:World} (h:Q .normal a w):fS Q .normal a w:=h
theorem fS.out {Q:Exit→Act→World→Prop}:∀ (e:Exit) (a:Act) (w:World),fS Q e a w→Q e a w:=fun e a w h=>by
 cases e with
 | panic c=>exact (h:False).elim
 | normal=>exact h
 | exit id=>exact h
 | goto l=>exact h
 | ret=>exact h
 | outgrown=>exact h
def ST.swp (S:ST) (N':List (Int×GK)) (U':List (GK×Int)):ST:={ S with N:=N',U:=U',K:=[] }
attribute [local go_sem] Oper.semAt_some
theorem Z8 (n:Nat) {w:World} {B:SB} {S:ST} (hS:Aj w B S) (hw:WF S) (g0 c0:Nat) (roots:List Int) (hrow:B8 w g0 roots) (hg0:g0∉B.own) (hr:Fz S roots) (hlen:roots.length≤1000) (hN:∀ xs ws,JS (S.withK []) roots ws xs→xs.length≤100000000) :
  CallsIn Fence.wide n prog 221 #[.pointer (some ⟨B.b,0,none⟩),.slice (some ⟨g0,0,none⟩) roots.length c0] w fun e w'=>e=.returned (.tuple #[])∧∃ S',Aj w' B S'∧IE S S' roots∧AA B.own w w':=by
 obtain ⟨o,hrun,hm⟩:=QV (P:=prog) underlying211 hS.known 0;have hrun':=fun (ty:TypeId)=>(show (Builtin.clear_ #[211] ty #[.map (some B.rk)]).run prog w=_ from hrun);clear hrun;have hSc:Aj (blk w B.rk o) B (S.withK []):=hS.knownBlk hm;have kc:AA B.own w (blk w B.rk o):=(AA.blk w B.rk o).mono (by simp [SB.own]);have hrowc:=hrow.kept kc hg0;have hszc:(blk w B.rk o).heap.size=w.heap.size:=by simp [blk]
 have c5:=hS.head.cell 5;simp at c5;have hmm:=@run_makeMap prog;refine callsIn_of_wp_marks func221 rfl trivial ?_ rfl;simp only [ntmps221,Bw,AU,Ao,Nat.reduceAdd,Nat.reduceSub,B0,Bz,CW,Bo,BM,A8];gi_wp2_with fail
 refine ⟨trivial,fun h=>(nomatch h),?_⟩;refine (callsIn_wide.2 (T5 _ _ _ _ _)).mono ?_;rintro e W ⟨rfl,rfl⟩;gi_wp2_with fail
 generalize hWc:blk w B.rk o=Wc at hm hSc kc hrowc hszc hrun' ⊢;clear hWc hrun' hm c5;rw [←hszc];have Hszc:=AD hszc;clear hszc;have z1:=size_alloc' Wc (.map #[] 0);have z2:=size_alloc' (Wc.alloc (.map #[] 0)) (.cells #[.map (some Wc.heap.size)] 338);have z3:=size_alloc' ((Wc.alloc (.map #[] 0)).alloc (.cells #[.map (some Wc.heap.size)] 338)) (.cells #[.pointer (some ⟨B.b,0,none⟩)] 135);have z4:=size_alloc' (((Wc.alloc (.map #[] 0)).alloc (.cells #[.map (some Wc.heap.size)] 338)).alloc (.cells #[.pointer (some ⟨B.b,0,none⟩)] 135)) (.cells #[.slice (some ⟨g0,0,none⟩) roots.length c0] 40);have a1:Bi eI eU (Wc.alloc (.map #[] 0)) Wc.heap.size ([]:List (Int×Unit)):=Bi.new Wc 0;have a2:=AK.new (Wc.alloc (.map #[] 0)) #[.map (some Wc.heap.size)] 338;have a3:=AK.new ((Wc.alloc (.map #[] 0)).alloc (.cells #[.map (some Wc.heap.size)] 338)) #[.pointer (some ⟨B.b,0,none⟩)] 135;have a4:=AK.new (((Wc.alloc (.map #[] 0)).alloc (.cells #[.map (some Wc.heap.size)] 338)).alloc (.cells #[.pointer (some ⟨B.b,0,none⟩)] 135)) #[.slice (some ⟨g0,0,none⟩) roots.length c0] 40;have k1:=AA.alloc [] Wc (.map #[] 0);have k2:=AA.alloc [] (Wc.alloc (.map #[] 0)) (.cells #[.map (some Wc.heap.size)] 338);have k3:=AA.alloc [] ((Wc.alloc (.map #[] 0)).alloc (.cells #[.map (some Wc.heap.size)] 338)) (.cells #[.pointer (some ⟨B.b,0,none⟩)] 135);have k4:=AA.alloc [] (((Wc.alloc (.map #[] 0)).alloc (.cells #[.map (some Wc.heap.size)] 338)).alloc (.cells #[.pointer (some ⟨B.b,0,none⟩)] 135)) (.cells #[.slice (some ⟨g0,0,none⟩) roots.length c0] 40);rw [z1] at z2 a2;rw [z2] at z3 a3;rw [z3] at z4 a4;have b1:=((a1.kept k2 (by simp)).kept k3 (by simp)).kept k4 (by simp);have b2:=(a2.keeps k3).keeps k4;have b3:=a3.keeps k4;have kk:=((k1.trans k2).trans k3).trans k4;have hS4:=hSc.keeps kk;have hrow4:=hrowc.kept kk (by simp);clear k1 k2 k3 k4 a1 a2 a3 z1 z2 z3;generalize (((Wc.alloc (.map #[] 0)).alloc (.cells #[.map (some Wc.heap.size)] 338)).alloc (.cells #[.pointer (some ⟨B.b,0,none⟩)] 135)).alloc (.cells #[.slice (some ⟨g0,0,none⟩) roots.length c0] 40)=W0 at z4 a4 b1 b2 b3 kk hS4 hrow4 ⊢;have hlow:∀ i∈B.own,i<Wc.heap.size:=hSc.lt
 have hit:=V7 (S:=S.withK []) hS4 (OF hw []) (Wc.heap.size+1+1+1) (Wc.heap.size+1+1) g0 c0 roots a4 b3 hrow4 hr hlen hN [Wc.heap.size] (by
  intro t ht;simp only [AF] at ht;subst ht
  exact ⟨by omega,hSc.fresh' (AQ _),by omega⟩)
 refine Qa (gf:=280) (lb:=#[.pointer (some ⟨Wc.heap.size+1+1+1,0,none⟩),.pointer (some ⟨Wc.heap.size+1+1,0,none⟩)]) rfl (enters_of func280 (by kernel_rfl) rfl) (T:=[Wc.heap.size]) (by simp;omega) hit (fun _=>rfl)
  (fun pre W=>AK W (Wc.heap.size+1) #[.map (some Wc.heap.size)]∧∃ L,Bi eI eU W Wc.heap.size L∧∀ f,(DD L f).isSome=true↔f∈pre.map Prod.fst)
  (fun pre W1 W2 ⟨h,L,h2,h3⟩ hb=>⟨h.of_heap (hb.block _ (by omega)),L,h2.of_heap (hb.block _ (by omega)),h3⟩) ⟨b2,[],b1,fun f=>by simp [JL]⟩
  (fun x a' W=>a' = { tmps:=#[.pointer (some ⟨B.b,0,none⟩),.slice (some ⟨g0,0,none⟩) roots.length c0,undef,undef,.pointer (some ⟨Wc.heap.size+1,0,none⟩),.int .i64 x.1,undef,undef,undef,undef,.pointer (some ⟨B.b,0,none⟩),.pointer (some ⟨B.b,0,none⟩),.pointer (some ⟨B.b,5,none⟩),.map (some B.rk),.map (some Wc.heap.size),.pointer (some ⟨B.b,0,none⟩),.slice (some ⟨g0,0,none⟩) roots.length c0,.func (.func 280) #[] #[.pointer (some ⟨Wc.heap.size+1+1+1,0,none⟩),.pointer (some ⟨Wc.heap.size+1+1,0,none⟩)],.int .i64 x.1,.agg #[.int .i64 x.2.1,.int .i64 x.2.2.1,.int .i64 x.2.2.2],undef,undef,undef,undef,undef,undef,undef,undef,undef,undef,undef,undef,undef,undef,undef,undef,undef,undef,undef,undef,undef,undef,undef,undef,undef,undef,undef,undef,undef,undef,undef],defers:=[] })
  (fun x a' W1 W2 h _=>h) ?assign ?body ?done
 case assign=>
  intro l pre x W K hlt hi hc hK;simp only [eN,List.zip_toArray,List.zip_cons_cons,List.zip_nil_right,List.foldl_toArray',Bw,AU,Ao,List.foldl_cons,List.foldl_nil,AI,AR,AS];gi_wp2
  exact hK _ _ rfl (AA.refl _ _)
 case body=>
  rintro l pre x a' W hlt ⟨hi,L,hL,hLi⟩ hc rfl;have c0':=hi.cell 0;simp at c0';obtain ⟨o2,hrun2,hm2⟩:=Fm (P:=prog) underlying338 In hL x.1 ();simp only [eI,eU] at hrun2;have k5:=AA.blk W Wc.heap.size o2;have hi2:=hi.keeps k5;gi_wp2
  refine ⟨⟨hi2,_,hm2,fun f=>?_⟩,k5⟩;rw [GP];by_cases e:f=x.1
  ·subst e;simp
  ·rw [if_neg e,hLi];simp [e]
 case done=>
  rintro xs W hG ⟨hi,L,hL,hLi⟩ hk hlt hD;have hSW:=hS4.keeps hk (fun i hi x=>by simp only [AF] at x;have:=hlow i hi;omega);have kW:AA [] Wc W:=kk.trans_new hk (by intro i hi;simp only [AF] at hi;exact .inr (by omega));have hneed:∀ f,(DD L f).isSome=true↔Ea S roots f:=fun f=>by rw [hLi];exact hG.iff f
  obtain ⟨o3,hrun3,hmr⟩:=Ra (P:=prog) (K:=3) (E:=228) underlying209 hSW.nodes;have c2:=hSW.head.cell 2;simp at c2;have kR:=AA.alloc [] W o3;have hD3:=(kR.block _ (AO.1 hD).1 (by simp)).trans hD;have hi3:=hi.keeps kR;have hL3:=hL.kept kR (by simp);have hS3:=hSW.keeps kR;have kW3:=kW.trans kR;have HD3:=AD hD3;have Hrun3:=hrun3;clear hLi hG hD hit b1 b2 b3 a4 hrow4 hrowc;gi_wp2_with fail
  have kwW3:AA B.own w (W.alloc o3):=kc.trans (kW3.mono (by simp));have hWs:Wc.heap.size+1+1+1+1≤W.heap.size:=by have:=hk.size;omega
  have hitown:W.heap.size∉B.own:=fun x=>by have:=hlow _ x;omega
  have hmr':Dj eI eT (W.alloc o3) B.rn W.heap.size S.N (S.N.map Prod.fst):=hmr;clear hrun3 Hrun3 hmr c2 kW3 kW kR hSW hi hL hk
  gi_loopw [6] (fun _ wr=>∃ (N':List (Int×GK)) (U':List (GK×Int)) (left:List Int),Dj eI eT wr B.rn W.heap.size N' left∧Aj wr B (S.swp N' U')∧LC S roots N' U' left∧AK wr (Wc.heap.size+1) #[.map (some Wc.heap.size)]∧Bi eI eU wr Wc.heap.size L∧Hid (wr.heap[W0.heap.size]?=some (.deferred (some [])))∧AA B.own w wr)
   (fun _ wr=>Mp wr W.heap.size)
  case atStart=>exact ⟨S.N,S.U,S.N.map Prod.fst,hmr',hS3,LC.start hw roots,hi3,hL3,HD3,kwW3⟩
  case round=>
   obtain ⟨N',U',left,hmr,hSr,hinv,hbox,hneedm,HD,hkr⟩:=hrel;clear hmr' hS3 hi3 hL3 HD3 kwW3;have hcnt:=JJ hmr;have Hcnt:=AD hcnt;clear hcnt;rcases hmr.next (P:=prog) dU 0 with ⟨hl,hrun⟩ | ⟨f,t,W1,hf,ht,hrun,hen,hmr1,k1,hs1⟩
   ·have hrun':=fun (ty:TypeId)=>(show (Instr.next (.pointer (some ⟨W.heap.size,0,none⟩)) false ty).run prog wr=_ from hrun);clear hrun;gi_wp2_with fail
    refine ⟨by simp,.inl ⟨_,_,rfl,run_takeDeferred HD.out,?_⟩⟩;refine ⟨_,results_none rfl _ _ _,rfl,S.swp N' U',?_,?_,?_⟩
    ·exact hSr.keeps (AA.putObj wr W0.heap.size _) (fun i hi x=>by simp only [AF] at x;have:=hlow i hi;omega)
    ·subst hl;exact ⟨rfl,rfl,rfl,rfl,fun f t=>by rw [show (S.swp N' U').N=N' from rfl,hinv.node];simp,fun t f=>by rw [show (S.swp N' U').U=U' from rfl,hinv.number];simp⟩
    ·refine hkr.trans_new (AA.putObj wr W0.heap.size _) (fun i hi=>?_);simp only [AF] at hi;have:=Hszc.out;exact .inr (by omega)
   ·have hrun':=fun (ty:TypeId)=>(show (Instr.next (.pointer (some ⟨W.heap.size,0,none⟩)) false ty).run prog wr=_ from hrun);obtain ⟨v,lo,hi⟩:=t;simp only [eI,eT] at hrun' hen;clear hrun;have htS:=((hinv.node _ _).1 ht).1;have hits:∀ i∈B.own,i∉[W.heap.size]:=fun i hi x=>by simp only [AF] at x;exact hitown (x ▸ hi)
    have hS1:=hSr.keeps k1 hits;have hbox1:=hbox.keeps k1 (by simp;omega);have hneed1:=hneedm.kept k1 (by simp;omega);have kA:=AA.alloc [] W1 (.cells #[.int .i64 v,.int .i64 lo,.int .i64 hi] 228);have hNA:=AK.new W1 #[.int .i64 v,.int .i64 lo,.int .i64 hi] 228;have hbA:=hbox1.keeps kA;have hnA:=hneed1.kept kA (by simp);have cb:=hbA.cell 0;simp at cb;have hlk:=EM (P:=prog) underlying338 In (z:=.agg #[]) Q9 hnA f true;have kB:=AA.alloc [] (W1.alloc (.cells #[.int .i64 v,.int .i64 lo,.int .i64 hi] 228)) (.cells #[] 339);have kAB:=kA.trans kB;have hmrB:=hmr1.of_heap (w':=(W1.alloc (.cells #[.int .i64 v,.int .i64 lo,.int .i64 hi] 228)).alloc (.cells #[] 339)) (kAB.block _ hmr1.is.lt (by simp)) (kAB.block _ hmr1.it_lt (by simp));have hSB:=hS1.keeps kAB;have hbB:=hbox1.keeps kAB;have hnB:=hneed1.kept kAB (by simp);have hNB:=hNA.keeps kB;have hszI:W0.heap.size<wr.heap.size:=(AO.1 HD.out).1;have hDB:Hid ((((W1.alloc (.cells #[.int .i64 v,.int .i64 lo,.int .i64 hi] 228)).alloc (.cells #[] 339)).heap)[W0.heap.size]?=some (.deferred (some []))):=by
     refine (kAB.block _ ?_ (by simp)).trans ((k1.block _ hszI ?_).trans HD.out)
     ·have:=k1.size;omega
     ·simp only [AF];intro e;have hx:=HD.out;rw [e] at hx;obtain ⟨_,_,_,_,_,_,_,_,_,_,h6,_⟩:=hmr;rw [h6] at hx;cases hx
    have hkB:AA B.own w ((W1.alloc (.cells #[.int .i64 v,.int .i64 lo,.int .i64 hi] 228)).alloc (.cells #[] 339)):=(hkr.trans_new (k1.trans (kAB.mono (by simp))) (fun i hi=>by simp only [AF] at hi;have:=Hszc.out;exact .inr (by omega)));have hfl:f∉left.filter (fun b=>decide (b≠f)):=(by simp [List.mem_filter]);have hless:(left.filter (fun b=>decide (b≠f))).length<left.length:=by
     have h1:=List.length_filter_lt_length_iff_exists (l:=left) (p:=fun b=>decide (b≠f));exact h1.2 ⟨f,hf,by simp⟩
    by_cases hrf:Ea S roots f
    ·have hsome:=(hneed f).2 hrf;obtain ⟨u,hu⟩:=Bf.1 hsome;simp only [hu,A5,BU,eI,eU,CG,if_true] at hlk;have hcB:=JJ hmrB;have HcB:=AD hcB;clear hcB hsome hu;gi_wp2_with fail
     refine ⟨⟨N',U',_,hmrB,hSB,hinv.stays hrf,hbB,hnB,hDB,hkB⟩,?_⟩;rw [Hcnt.out,HcB.out];exact hless
    ·have hnone:DD L f=none:=by
      cases hg:DD L f with
      | none=>rfl
      | some u=>exact absurd ((hneed f).1 (by rw [hg];rfl)) hrf
     simp only [hnone,Cb,CB,eI,B6,if_true] at hlk;obtain ⟨o4,hrun4,hmr4⟩:=hmrB.del (P:=prog) (T:=209) (E:=228) underlying209 In dU f hfl 0;have hrun4':=fun (ty:TypeId)=>(show (Builtin.delete_ #[209,3] ty #[.map (some B.rn),.int .i64 f]).run prog ((W1.alloc (.cells #[.int .i64 v,.int .i64 lo,.int .i64 hi] 228)).alloc (.cells #[] 339))=_ from hrun4);clear hrun4 hnone;have hS4':=hSB.nodesBlk hmr4.is;have cn:=hSB.head.cell 2;simp at cn;have k4:AA [B.rn] ((W1.alloc (.cells #[.int .i64 v,.int .i64 lo,.int .i64 hi] 228)).alloc (.cells #[] 339)) (blk ((W1.alloc (.cells #[.int .i64 v,.int .i64 lo,.int .i64 hi] 228)).alloc (.cells #[] 339)) B.rn o4):=AA.blk _ _ _;have hrnl:B.rn<Wc.heap.size:=hlow _ (by simp [SB.own]);have hN4:=hNB.keeps k4 (by simp;have:=k1.size;omega);have hb4:=hbB.keeps k4 (by simp;omega);have hn4:=hnB.kept k4 (by simp;omega);have hD4:Hid ((blk ((W1.alloc (.cells #[.int .i64 v,.int .i64 lo,.int .i64 hi] 228)).alloc (.cells #[] 339)) B.rn o4).heap[W0.heap.size]?=some (.deferred (some []))):=(k4.block _ (AO.1 hDB.out).1 (by simp;omega)).trans hDB.out;have hk4:=hkB.trans (k4.mono (by simp [SB.own]));have hfol:prog.follows .mixedOrders=true:=(by kernel_rfl);gi_wp2_with fail
     clear hrun4' hlk cn hen hrun' cb;generalize blk ((W1.alloc (.cells #[.int .i64 v,.int .i64 lo,.int .i64 hi] 228)).alloc (.cells #[] 339)) B.rn o4=W4 at hmr4 hS4' hN4 hb4 hn4 hD4 hk4 ⊢;rw [hs1] at hN4;have hS5:=hS4'.drew;have c3:=hS4'.head.cell 3;have n0:=hN4.cell 0;have n1:=hN4.cell 1;have n2:=hN4.cell 2;simp at c3 n0 n1 n2;obtain ⟨o5,hrun5,hm5⟩:=gO (P:=prog) underlying210 WU hS5.numbers (v,lo,hi) 0;have hrun5':=fun (ty:TypeId)=>(show (Builtin.delete_ #[210,228] ty #[.map (some B.ru),.agg #[.int .i64 v,.int .i64 lo,.int .i64 hi]]).run prog W4.drew=_ from hrun5);clear hrun5;have hne:=SB.own_ne hS.apart;have k5:AA [B.ru] W4.drew (blk W4.drew B.ru o5):=AA.blk _ _ _;have k45:AA [B.ru] W4 (blk W4.drew B.ru o5):=(AA.drew _ _).trans k5;have hrul:B.ru<Wc.heap.size:=hlow _ (by simp [SB.own]);have hmr5:=hmr4.of_heap (w':=blk W4.drew B.ru o5) (k45.block _ hmr4.is.lt (by simp;exact hne.2.2.2.2.2.2.2.2.2.2.2.2.1)) (k45.block _ hmr4.it_lt (by simp;omega));have hS6:Aj (blk W4.drew B.ru o5) B (S.swp (del N' f) (del U' (v,lo,hi))):=hS5.numbersBlk hm5;have hb5:=hb4.keeps k45 (by simp;omega);have hn5:=hn4.kept k45 (by simp;omega);have hD5:Hid ((blk W4.drew B.ru o5).heap[W0.heap.size]?=some (.deferred (some []))):=(k45.block _ (AO.1 hD4.out).1 (by simp;omega)).trans hD4.out;have hk5:=hk4.trans (k45.mono (by simp [SB.own]));have hc5:=JJ hmr5;have Hc5:=AD hc5;clear hc5;refine wpIn_mono (Q:=fS _) ?_ fS.out;gi_region_with_o (fail)
     all_goals
      refine fS.normal ?_;gi_wp2_with fail
      refine ⟨⟨del N' f,del U' (v,lo,hi),_,hmr5,hS6,hinv.goes hw hrf htS,?_⟩,?_⟩
      ·have h5:=hD5.out;rw [z4] at h5;exact h5
      ·rw [Hcnt.out,Hc5.out];exact hless
theorem RM {w:World} {B:SB} {S:ST} (hS:Aj w B S) (hw:WF S) (g0 c0:Nat) (roots:List Int) (hrow:B8 w g0 roots) (hg0:g0∉B.own) (hr:Fz S roots) (hlen:roots.length≤1000) (hn:S.n≤12) :
  Calls prog 221 #[.pointer (some ⟨B.b,0,none⟩),.slice (some ⟨g0,0,none⟩) roots.length c0] w fun e w'=>e=.returned (.tuple #[])∧∃ S',Aj w' B S'∧IE S S' roots∧AA B.own w w':=
 callsIn_wide.1 (Z8 0 hS hw g0 c0 roots hrow hg0 hr hlen (fun _ _ h=>JS.few (OF hw []) hr h hn hlen))
end
section
open Go.RowKit
def L7 (listed:Array Bool):Nat:=(listed.toList.filter (fun b=>!b)).length
theorem NN {listed:Array Bool} {i:Nat} (h:listed.getD i true=false):L7 (listed.setIfInBounds i true)+1=L7 listed:=by
 have hi:i<listed.size:=by
  rcases BP i listed.size with q | q
  ·exact q
  ·simp [Array.getD,Nat.not_lt.2 q] at h
 have hv:listed.toList[i]?=some false:=by
  simp [Array.getD,hi] at h;simp [hi,h]
 unfold L7;rw [Array.toList_setIfInBounds];generalize listed.toList=l at *;clear h hi;induction l generalizing i with
 | nil=>simp at hv
 | cons b l ih=>
  cases i with
  | zero=>simp at hv;subst hv;simp
  | succ i=>
   have:=ih (i:=i) (by simpa using hv);simp only [AR,CD];split
   ·simp only [AU];omega
   ·exact this
theorem LL {md:Region.Mode} {ops:Array Oper} {listed:Array Bool} {i:Nat} (h:i∈Region.ready md ops listed):i<ops.size∧listed.getD i true=false∧∀ o,ops[i]?=some o→∀ e∈o.after,Region.binds md e=true→listed.getD e.on false=true:=by
 simp only [Region.ready,Ai,B9,A1,Dm] at h;refine ⟨h.1,h.2.1,fun o ho e he hb=>?_⟩;have h2:=h.2.2;rw [ho] at h2;simp only [A5,BU,Array.all_eq_true_iff_forall_mem] at h2;have:=h2 e he;rw [hb] at this;simpa using this
section
variable {n l:Nat} {P:Program} {ops:Array Oper} {Q:Exit→Act→World→Prop} {md:Region.Mode}
theorem Sw {F:Fence} {S:Array Bool→Act→World→Prop} (hstep:∀ listed a w i,S listed a w→i∈Region.ready md ops listed→wpOpIn F n P ops Q i (S (listed.setIfInBounds i true)) a w) (hend:∀ listed a w,S listed a w→Region.ready md ops listed=[]→Q .normal a w):∀ fuel listed a w,L7 listed≤fuel→S listed a w→wpAnyIn F n P md ops Q fuel listed a w:=by
 intro fuel;induction fuel with
 | zero=>
  intro listed a w h hS;have hr:Region.ready md ops listed=[]:=by
   rw [List.eq_nil_iff_forall_not_mem];intro i hi;have:=NN (LL hi).2.1;omega
  exact ⟨hr,hend _ _ _ hS hr⟩
 | succ fuel ih=>
  intro listed a w h hS;refine ⟨fun hr=>hend _ _ _ hS hr,fun i hi=>wpOpIn_mono (fun a w=>ih _ a w ?_) (hstep _ _ _ _ hS hi)⟩;have:=NN (LL hi).2.1;omega
theorem Nn {F:Fence} {id:Nat} {a:Act} {w:World} {S:Array Bool→Act→World→Prop} (hm:P.follows .mixedOrders=true) (h0:S (Array.replicate ops.size false) a w.drew) (hstep:∀ listed a w i,S listed a w→i∈Region.ready .any ops listed→wpOpIn F n P ops Q i (S (listed.setIfInBounds i true)) a w) (hend:∀ listed a w,S listed a w→Region.ready .any ops listed=[]→Q .normal a w):(Code.region id ops true).wpIn F n P Q a w:=
 wpIn_region_any hm (Sw hstep hend _ _ _ _ (by simp [L7]) h0)
theorem iE {i:Nat} {o:Oper} {K:Act→World→Prop} {a:Act} {w:World} (ho:ops[i]?=some o) (hg:o.guard=none) (hd:∀ c,o.op≠.defer c) (h:o.uponIn (Fence.wide.inRound l) n P a K Q ((execOp a.eval o).run P w)):wpOpIn (Fence.wide.inRound l) n P ops Q i K a w:=by
 unfold wpOpIn;simp only [ho];have hw:Region.wanted o (yielded ops a.tmps)=true:=by simp [Region.wanted,hg]
 rw [if_pos hw];refine ⟨fun _ _=>trivial,?_⟩;rw [Oper.semAt_eq _ _ _ hd];exact h
theorem D4 {i:Nat} {o:Oper} {K:Act→World→Prop} {a:Act} {w w':World} {v:Value} (ho:ops[i]?=some o) (hg:o.guard=none) (hd:∀ c,o.op≠.defer c) (hr:(execOp a.eval o).run P w=.ok (.value v) w') (h:K (a.put o.dst v) w'):wpOpIn (Fence.wide.inRound l) n P ops Q i K a w:=by
 refine iE ho hg hd ?_;rw [hr];exact h
theorem Yv {i:Nat} {o:Oper} {K:Act→World→Prop} {a:Act} {w w':World} (ho:ops[i]?=some o) (hg:o.guard=none) (hd:∀ c,o.op≠.defer c) (hr:(execOp a.eval o).run P w=.ok .skip w') (h:K (a.put o.dst undef) w'):wpOpIn (Fence.wide.inRound l) n P ops Q i K a w:=by
 refine iE ho hg hd ?_;rw [hr];exact h
theorem Mj {i:Nat} {o:Oper} {K:Act→World→Prop} {a:Act} {w w':World} {f:Nat} {args:Array Value} {R:Ending→World→Prop} (ho:ops[i]?=some o) (hg:o.guard=none) (hd:∀ c,o.op≠.defer c) (hr:(execOp a.eval o).run P w=.ok (.enter f args) w') (hc:Calls P f args w' R) (h:∀ e w'',R e w''→∃ v,e=.returned v∧K (a.put o.dst v) w''):wpOpIn (Fence.wide.inRound l) n P ops Q i K a w:=by
 refine iE ho hg hd ?_;rw [hr];refine ⟨fun h=>(nomatch h),CallsIn.inRound l ((callsIn_wide.2 hc).mono ?_)⟩;intro e w'' he;obtain ⟨v,rfl,hk⟩:=h e w'' he;exact hk
end
theorem Of {a:Act} {d j:Nat} {v:Value} (h:j≠d):(a.put (some d) v).eval (.tmp j)=a.eval (.tmp j):=by
 simp only [Act.put,Act.eval,BA,AZ];rw [if_neg (fun e=>h e.symm)]
theorem GM {a:Act} {d:Nat} {v:Value} (h:d<a.tmps.size):(a.put (some d) v).eval (.tmp d)=v:=by
 simp [Act.put,Act.eval,Array.getD_eq_getD_getElem?,h]
theorem To {a:Act} {d:Option Nat} {v:Value}:(a.put d v).tmps.size=a.tmps.size:=by
 cases d <;> simp [Act.put]
theorem V3 {a:Act} {d:Option Nat} {v:Value}:(a.put d v).defers=a.defers:=by
 cases d <;> simp [Act.put]
end
end Go.Proofs.YtgjomknpjigkhaaGreatDoor
