import Derived.Test.YtgjomknpjigkhaaGreatDoorZ03
import Derived.Deep.RegionHeld3
namespace Go.Proofs.YtgjomknpjigkhaaGreatDoor
open Go.Proofs.Tryz
set_option maxRecDepth 100000
set_option maxHeartbeats 4000000
section
open Go.RowKit
def fc (cj:Int):Nat→Int
 | 0=>0
 | k+1=>2 * fc cj k+cj
theorem Ir {cj:Int} (h:0≤cj):∀ k,0≤fc cj k
 | 0=>by simp [fc]
 | k+1=>by have:=Ir h k;simp only [fc];omega
structure nE (R:ST→Int→Int→Prop) (S:ST) (D:List (Int×Int)):Prop where
 rel:∀ f r,DD D f=some r→S.ok f∧R S f r
 zero:(DD D 0).isSome=true
 one:(DD D 1).isSome=true
structure MV (I:ST→Prop) (R:ST→Int→Int→Prop) (S S':ST) (D':List (Int×Int)) (f r:Int) (c:Int):Prop where
 ext:EK S S'
 wf:WF S'
 known:Jj S'
 dok:nE R S' D'
 rel:R S' f r
 next:S'.next≤S.next+c
 inv:I S'
def Gt (B:SB) (rd:Nat) (C:World→Prop) (I:ST→Prop) (R:ST→Int→Int→Prop) (cj:Int) (w:World) (S:ST) (f:Int) (k:Nat) (e:Ending) (w':World):Prop:=
 ∃ r S' D',e=.returned (.int .i64 r)∧Aj w' B S'∧Bi eI eI w' rd D'∧AA (rd :: B.own) w w'∧C w'∧MV I R S S' D' f r (fc cj k)
def MU (B:SB) (rd:Nat) (cl:Value) (C:World→Prop) (I:ST→Prop) (R:ST→Int→Int→Prop) (cj:Int) (k:Nat):Prop:=
 ∀ (w:World) (S:ST) (D:List (Int×Int)) (f:Int),Aj w B S→WF S→Jj S→I S→C w→Bi eI eI w rd D→nE R S D→S.ok f→(S.n:Int) - S.lev f≤k→S.next+fc cj k<GN →
  Calls prog 210 #[.pointer (some ⟨B.b,0,none⟩),.int .i64 f,.map (some rd),cl] w (Gt B rd C I R cj w S f k)
structure MW (B:SB) (rd:Nat) (fid:FuncId) (args:Int→Int→Int→Array Value) (C:World→Prop) (I:ST→Prop) (R:ST→Int→Int→Prop) (cj:Int):Prop where
 sep:rd∉B.own
 keepC:∀ w w',C w→AA (rd :: B.own) w w'→C w'
 mono:∀ S S' f r,S.ok f→EK S S'→WF S→WF S'→I S→I S'→R S f r→R S' f r
 cost:0≤cj
 join:∀ w S f v l h rl rh,Aj w B S→WF S→Jj S→I S→C w→DD S.N f=some (v,l,h)→R S l rl→R S h rh→S.next+cj<GN →
  Calls prog fid (args v rl rh) w fun e w'=>∃ r S',e=.returned (.int .i64 r)∧Aj w' B S'∧AA B.own w w'∧EK S S'∧WF S'∧Jj S'∧I S'∧R S' f r∧S'.next≤S.next+cj
theorem IX {I:ST→Prop} {R:ST→Int→Int→Prop} (mono:∀ S S' f r,S.ok f→EK S S'→WF S→WF S'→I S→I S'→R S f r→R S' f r) {S S1 S2 S3:ST} {D1 D2:List (Int×Int)} {f v l h r0 r1 r cj:Int} {k:Nat}
  (hw:WF S) (ht:DD S.N f=some (v,l,h)) (p0:MV I R S S1 D1 l r0 (fc cj k)) (p1:MV I R S1 S2 D2 h r1 (fc cj k)) (x:EK S2 S3) (w3:WF S3) (k3:Jj S3) (i3:I S3) (rel:R S3 f r) (n3:S3.next≤S2.next+cj) :
  MV I R S S3 (put D2 f r) f r (fc cj (k+1)):=by
 have x3:=(p0.ext.trans p1.ext).trans x;refine ⟨x3,w3,k3,⟨?_,?_,?_⟩,rel,?_,i3⟩
 ·intro g q hg;rw [GP] at hg;by_cases e:g=f
  ·subst e;simp only [if_true,BD] at hg;subst hg;exact ⟨x3.ok (.inr (.inr ⟨(hw.node _ _ _ _ ht).1,_,ht⟩)),rel⟩
  ·simp only [e,if_false] at hg;obtain ⟨a,b⟩:=p1.dok.rel g q hg;exact ⟨x.ok a,mono _ _ _ _ a x p1.wf w3 p1.inv i3 b⟩
 ·rw [GP];split
  ·rfl
  ·exact p1.dok.zero
 ·rw [GP];split
  ·rfl
  ·exact p1.dok.one
 ·have:=p0.next;have:=p1.next;simp only [fc];omega
theorem Fb {w:World} {z:Nat} {x y u:Value} (h:AK w z #[x,y,u]):w.cell? ⟨z,0,none⟩=some x∧w.cell? ⟨z,1,none⟩=some y∧w.cell? ⟨z,2,none⟩=some u:=
 ⟨h.cell 0,h.cell 1,h.cell 2⟩
theorem Wh {w:World} {rd:Nat} {D:List (Int×Int)} (p cl:Value) (f r:Int) (hD:Bi eI eI w rd D) (hg:DD D f=some r) :
  Calls prog 210 #[p,.int .i64 f,.map (some rd),cl] w fun e w'=>e=.returned (.int .i64 r)∧w' = w:=by
 have hlk:=EM (P:=prog) underlying146 In (z:=.int .i64 0) Kp hD f true;simp only [hg,A5,BU,eI,CG,if_true] at hlk;go_in
 go_wp2
 go_ret
 exact ⟨rfl,rfl⟩
theorem Gr {B:SB} {rd:Nat} {cl:Value} {C:World→Prop} {I:ST→Prop} {R:ST→Int→Int→Prop} {cj:Int} (hc:0≤cj) (k:Nat) {w:World} {S:ST} {D:List (Int×Int)} {f r:Int} (hS:Aj w B S) (hw:WF S) (hk:Jj S) (hi:I S) (hC:C w) (hD:Bi eI eI w rd D) (hd:nE R S D) (hg:DD D f=some r) :
  Calls prog 210 #[.pointer (some ⟨B.b,0,none⟩),.int .i64 f,.map (some rd),cl] w (Gt B rd C I R cj w S f k):=
 (Wh _ cl f r hD hg).mono fun e w' ⟨he,hw'⟩=>by
  subst hw';exact ⟨r,S,D,he,hS,hD,AA.refl _ _,hC,EK.refl S,hw,hk,hd,(hd.rel f r hg).2,by have:=Ir hc k;omega,hi⟩
theorem Ul {B:SB} {rd:Nat} {C:World→Prop} {I:ST→Prop} {R:ST→Int→Int→Prop} {cj:Int} (E:MW B rd 235 (fun v rl rh=>#[.int .i64 v,.int .i64 rl,.int .i64 rh]) C I R cj) {k:Nat}
  (ih:Hid (MU B rd (.func (.func 235) #[] #[]) C I R cj k)) {w:World} {S:ST} {D:List (Int×Int)} (f v l h:Int) (hS0:Aj w B S) (hw:WF S) (hk:Jj S) (hi:I S) (hC:C w) (hD0:Bi eI eI w rd D) (hd:nE R S D) (hno:DD D f=none) (ht:DD S.N f=some (v,l,h))
  (hlev:(S.n:Int) - S.lev f≤(k+1:Nat)) (hlim:S.next+fc cj (k+1)<GN) :
  Calls prog 210 #[.pointer (some ⟨B.b,0,none⟩),.int .i64 f,.map (some rd),.func (.func 235) #[] #[]] w (Gt B rd C I R cj w S f (k+1)):=by
 have hn:=hw.node f v l h ht;have hsep:=E.sep;have hl:=look71' hS0 ht;have hlk:=EM (P:=prog) underlying146 In (z:=.int .i64 0) Kp hD0 f true;simp only [hno,Cb,CB,eI,B6,if_true] at hlk;have c2:=hS0.head.cell 2;simp at c2;have Hlim:=AD hlim;have Hlev:=AD hlev;have Ht:=AD ht;have Hn:=AD hn;clear hlim hlev ht hn hno;go_in
 go_wp2
 have hN:=AK.new w #[.int .i64 v,.int .i64 l,.int .i64 h] 228;have hS:=hS0.alloc (.cells #[.int .i64 v,.int .i64 l,.int .i64 h] 228);have hK:=AA.alloc (rd :: B.own) w (.cells #[.int .i64 v,.int .i64 l,.int .i64 h] 228);have hD:Bi eI eI _ rd D:=hD0.of_heap (Go.RowKit.Below.heap_alloc w (.cells #[.int .i64 v,.int .i64 l,.int .i64 h] 228) rd hD0.lt);have hC1:=E.keepC _ _ hC hK;have hne:w.heap.size∉rd :: B.own:=fun x=>by
  rcases AG.1 x with e | x
  ·exact absurd hD0.lt (by rw [e];omega)
  ·exact Nat.lt_irrefl _ (hS0.lt _ x)
 clear hl hlk c2;generalize w.alloc (.cells #[.int .i64 v,.int .i64 l,.int .i64 h] 228)=W at hN hS hK hD hC1 ⊢;generalize w.heap.size=z at hN hne ⊢;have hC2:C W.drew:=E.keepC _ _ hC1 (AA.drew _ _);have hD2:Bi eI eI W.drew rd D:=hD.of_heap rfl;have hN2:AK W.drew z _:=hN.of_heap rfl;have hK2:=hK.trans (AA.drew (rd :: B.own) W);have hS2:=hS.drew;have g0:=Fb hN
 go_region_held3 (fun w'=>w'.cell? ⟨z,0,none⟩=some (.int .i64 v)∧w'.cell? ⟨z,1,none⟩=some (.int .i64 l)∧w'.cell? ⟨z,2,none⟩=some (.int .i64 h)) (first | exact Fb hN2 | exact Fb hN3 | exact Fb hN4 | exact Fb hN5)
  (first
   | (go_at_call_of 210 (Value.int IntKind.i64 l)
      refine (ih.out W.drew S D l hS2 hw hk hi hC2 hD2 hd Hn.out.2.2.2.2.2.1 ?_ ?_).mono ?_
      ·have:=Hlev.out;have:=Hn.out.2.2.2.2.2.2.2.1;rw [Cw hw Ht.out] at *;dsimp only at *;omega
      ·have:=Hlim.out;simp only [fc] at this;have:=Ir E.cost k;have:=E.cost;omega
      rintro e W3 ⟨r0,S1,D1,rfl,hS3,hD3,k3,hC3,p0⟩;have hN3:=hN2.keeps k3 hne
      have hK3:=hK2.trans k3)
   | (go_at_call_of 210 (Value.int IntKind.i64 h)
      refine (ih.out W3 S1 D1 h hS3 p0.wf p0.known p0.inv hC3 hD3 p0.dok (p0.ext.ok Hn.out.2.2.2.2.2.2.1) ?_ ?_).mono ?_
      ·rw [p0.ext.lev Hn.out.2.2.2.2.2.2.1,p0.ext.n];have:=Hlev.out;have:=Hn.out.2.2.2.2.2.2.2.2;rw [Cw hw Ht.out] at *;dsimp only at *;omega
      ·have:=Hlim.out;simp only [fc] at this;have:=p0.next;have:=E.cost;omega
      rintro e W4 ⟨r1,S2,D2,rfl,hS4,hD4,k4,hC4,p1⟩;have hN4:=hN3.keeps k4 hne
      have hK4:=hK3.trans k4)
   | (go_at_call 235
      refine (E.join W4 S2 f v l h r0 r1 hS4 p1.wf p1.known p1.inv hC4 (p1.ext.node _ _ (p0.ext.node _ _ Ht.out)) (E.mono _ _ _ _ (p0.ext.ok Hn.out.2.2.2.2.2.1) p1.ext p0.wf p1.wf p0.inv p1.inv p0.rel) p1.rel ?_).mono ?_
      ·have:=Hlim.out;simp only [fc] at this;have:=p0.next;have:=p1.next;omega
      rintro e W5 ⟨r,S3,rfl,hS5,k5,x5,w5,kk5,i5,rel5,n5⟩;have k5':AA (rd :: B.own) W4 W5:=k5.mono (fun i hi=>AP _ hi);have hN5:=hN4.keeps k5' hne;have hK5:=hK4.trans k5';have hC5:=E.keepC _ _ hC4 k5'
      have hD5:Bi eI eI W5 rd D2:=hD4.of_heap (k5.block rd hD4.lt hsep)))
 all_goals
  obtain ⟨o,hrun,hmm⟩:=Fm (P:=prog) underlying146 In hD5 f r;simp only [eI] at hrun;go_wp2
  go_ret
  refine ⟨r,S3,put D2 f r,rfl,hS5.of_heap (fun i hi=>CQ o (fun e=>hsep (e ▸ hi))),hmm,hK5.trans ((AA.blk _ _ _).mono (by simp)),E.keepC _ _ hC5 ((AA.blk _ _ _).mono (by simp)),?_⟩;exact IX E.mono hw Ht.out p0 p1 x5 w5 kk5 i5 rel5 n5
theorem jG {B:SB} {rd:Nat} {C:World→Prop} {I:ST→Prop} {R:ST→Int→Int→Prop} {cj:Int} (E:MW B rd 235 (fun v rl rh=>#[.int .i64 v,.int .i64 rl,.int .i64 rh]) C I R cj):∀ k,MU B rd (.func (.func 235) #[] #[]) C I R cj k:=by
 intro k;induction k with
 | zero=>
  intro w S D f hS hw hk hi hC hD hd okf hl hlim;have fl:¬ 2≤f:=fun x=>by have:=(DE hw okf).2 x;omega
  have hs:(DD D f).isSome=true:=by
   rcases okf with rfl | rfl | ⟨x,_⟩
   ·exact hd.zero
   ·exact hd.one
   ·exact absurd x fl
  obtain ⟨r,hr⟩:=Bf.1 hs;exact Gr E.cost 0 hS hw hk hi hC hD hd hr
 | succ k ih=>
  intro w S D f hS hw hk hi hC hD hd okf hl hlim;cases hg:DD D f with
  | some r=>exact Gr E.cost _ hS hw hk hi hC hD hd hg
  | none=>
   rcases okf with rfl | rfl | ⟨x,⟨v,l,h⟩,ht⟩
   ·have:=hd.zero;rw [hg] at this;cases this
   ·have:=hd.one;rw [hg] at this;cases this
   ·exact Ul E (AD ih) f v l h hS hw hk hi hC hD hd hg ht hl hlim
theorem Um {B:SB} {rd:Nat} {C:World→Prop} {I:ST→Prop} {R:ST→Int→Int→Prop} {cj:Int} {p q:Nat} (E:MW B rd 212 (fun v rl rh=>#[.int .i64 v,.int .i64 rl,.int .i64 rh,.pointer (some ⟨p,0,none⟩),.pointer (some ⟨q,0,none⟩)]) C I R cj) {k:Nat}
  (ih:Hid (MU B rd (.func (.func 212) #[] #[.pointer (some ⟨p,0,none⟩),.pointer (some ⟨q,0,none⟩)]) C I R cj k)) {w:World} {S:ST} {D:List (Int×Int)} (f v l h:Int) (hS0:Aj w B S) (hw:WF S) (hk:Jj S) (hi:I S) (hC:C w) (hD0:Bi eI eI w rd D) (hd:nE R S D) (hno:DD D f=none) (ht:DD S.N f=some (v,l,h))
  (hlev:(S.n:Int) - S.lev f≤(k+1:Nat)) (hlim:S.next+fc cj (k+1)<GN) :
  Calls prog 210 #[.pointer (some ⟨B.b,0,none⟩),.int .i64 f,.map (some rd),.func (.func 212) #[] #[.pointer (some ⟨p,0,none⟩),.pointer (some ⟨q,0,none⟩)]] w (Gt B rd C I R cj w S f (k+1)):=by
 have hn:=hw.node f v l h ht;have hsep:=E.sep;have hl:=look71' hS0 ht;have hlk:=EM (P:=prog) underlying146 In (z:=.int .i64 0) Kp hD0 f true;simp only [hno,Cb,CB,eI,B6,if_true] at hlk;have c2:=hS0.head.cell 2;simp at c2;have Hlim:=AD hlim;have Hlev:=AD hlev;have Ht:=AD ht;have Hn:=AD hn;clear hlim hlev ht hn hno;go_in
 go_wp2
 have hN:=AK.new w #[.int .i64 v,.int .i64 l,.int .i64 h] 228;have hS:=hS0.alloc (.cells #[.int .i64 v,.int .i64 l,.int .i64 h] 228);have hK:=AA.alloc (rd :: B.own) w (.cells #[.int .i64 v,.int .i64 l,.int .i64 h] 228);have hD:Bi eI eI _ rd D:=hD0.of_heap (Go.RowKit.Below.heap_alloc w (.cells #[.int .i64 v,.int .i64 l,.int .i64 h] 228) rd hD0.lt);have hC1:=E.keepC _ _ hC hK;have hne:w.heap.size∉rd :: B.own:=fun x=>by
  rcases AG.1 x with e | x
  ·exact absurd hD0.lt (by rw [e];omega)
  ·exact Nat.lt_irrefl _ (hS0.lt _ x)
 clear hl hlk c2;generalize w.alloc (.cells #[.int .i64 v,.int .i64 l,.int .i64 h] 228)=W at hN hS hK hD hC1 ⊢;generalize w.heap.size=z at hN hne ⊢;have hC2:C W.drew:=E.keepC _ _ hC1 (AA.drew _ _);have hD2:Bi eI eI W.drew rd D:=hD.of_heap rfl;have hN2:AK W.drew z _:=hN.of_heap rfl;have hK2:=hK.trans (AA.drew (rd :: B.own) W);have hS2:=hS.drew;have g0:=Fb hN
 go_region_held3 (fun w'=>w'.cell? ⟨z,0,none⟩=some (.int .i64 v)∧w'.cell? ⟨z,1,none⟩=some (.int .i64 l)∧w'.cell? ⟨z,2,none⟩=some (.int .i64 h)) (first | exact Fb hN2 | exact Fb hN3 | exact Fb hN4 | exact Fb hN5)
  (first
   | (go_at_call_of 210 (Value.int IntKind.i64 l)
      refine (ih.out W.drew S D l hS2 hw hk hi hC2 hD2 hd Hn.out.2.2.2.2.2.1 ?_ ?_).mono ?_
      ·have:=Hlev.out;have:=Hn.out.2.2.2.2.2.2.2.1;rw [Cw hw Ht.out] at *;dsimp only at *;omega
      ·have:=Hlim.out;simp only [fc] at this;have:=Ir E.cost k;have:=E.cost;omega
      rintro e W3 ⟨r0,S1,D1,rfl,hS3,hD3,k3,hC3,p0⟩;have hN3:=hN2.keeps k3 hne
      have hK3:=hK2.trans k3)
   | (go_at_call_of 210 (Value.int IntKind.i64 h)
      refine (ih.out W3 S1 D1 h hS3 p0.wf p0.known p0.inv hC3 hD3 p0.dok (p0.ext.ok Hn.out.2.2.2.2.2.2.1) ?_ ?_).mono ?_
      ·rw [p0.ext.lev Hn.out.2.2.2.2.2.2.1,p0.ext.n];have:=Hlev.out;have:=Hn.out.2.2.2.2.2.2.2.2;rw [Cw hw Ht.out] at *;dsimp only at *;omega
      ·have:=Hlim.out;simp only [fc] at this;have:=p0.next;have:=E.cost;omega
      rintro e W4 ⟨r1,S2,D2,rfl,hS4,hD4,k4,hC4,p1⟩;have hN4:=hN3.keeps k4 hne
      have hK4:=hK3.trans k4)
   | (go_at_call 212
      refine (E.join W4 S2 f v l h r0 r1 hS4 p1.wf p1.known p1.inv hC4 (p1.ext.node _ _ (p0.ext.node _ _ Ht.out)) (E.mono _ _ _ _ (p0.ext.ok Hn.out.2.2.2.2.2.1) p1.ext p0.wf p1.wf p0.inv p1.inv p0.rel) p1.rel ?_).mono ?_
      ·have:=Hlim.out;simp only [fc] at this;have:=p0.next;have:=p1.next;omega
      rintro e W5 ⟨r,S3,rfl,hS5,k5,x5,w5,kk5,i5,rel5,n5⟩;have k5':AA (rd :: B.own) W4 W5:=k5.mono (fun i hi=>AP _ hi);have hN5:=hN4.keeps k5' hne;have hK5:=hK4.trans k5';have hC5:=E.keepC _ _ hC4 k5'
      have hD5:Bi eI eI W5 rd D2:=hD4.of_heap (k5.block rd hD4.lt hsep)))
 all_goals
  obtain ⟨o,hrun,hmm⟩:=Fm (P:=prog) underlying146 In hD5 f r;simp only [eI] at hrun;go_wp2
  go_ret
  refine ⟨r,S3,put D2 f r,rfl,hS5.of_heap (fun i hi=>CQ o (fun e=>hsep (e ▸ hi))),hmm,hK5.trans ((AA.blk _ _ _).mono (by simp)),E.keepC _ _ hC5 ((AA.blk _ _ _).mono (by simp)),?_⟩;exact IX E.mono hw Ht.out p0 p1 x5 w5 kk5 i5 rel5 n5
theorem SL {B:SB} {rd:Nat} {C:World→Prop} {I:ST→Prop} {R:ST→Int→Int→Prop} {cj:Int} {p q:Nat} (E:MW B rd 212 (fun v rl rh=>#[.int .i64 v,.int .i64 rl,.int .i64 rh,.pointer (some ⟨p,0,none⟩),.pointer (some ⟨q,0,none⟩)]) C I R cj):∀ k,MU B rd (.func (.func 212) #[] #[.pointer (some ⟨p,0,none⟩),.pointer (some ⟨q,0,none⟩)]) C I R cj k:=by
 intro k;induction k with
 | zero=>
  intro w S D f hS hw hk hi hC hD hd okf hl hlim;have fl:¬ 2≤f:=fun x=>by have:=(DE hw okf).2 x;omega
  have hs:(DD D f).isSome=true:=by
   rcases okf with rfl | rfl | ⟨x,_⟩
   ·exact hd.zero
   ·exact hd.one
   ·exact absurd x fl
  obtain ⟨r,hr⟩:=Bf.1 hs;exact Gr E.cost 0 hS hw hk hi hC hD hd hr
 | succ k ih=>
  intro w S D f hS hw hk hi hC hD hd okf hl hlim;cases hg:DD D f with
  | some r=>exact Gr E.cost _ hS hw hk hi hC hD hd hg
  | none=>
   rcases okf with rfl | rfl | ⟨x,⟨v,l,h⟩,ht⟩
   ·have:=hd.zero;rw [hg] at this;cases this
   ·have:=hd.one;rw [hg] at this;cases this
   ·exact Um E (AD ih) f v l h hS hw hk hi hC hD hd hg ht hl hlim
theorem Sm (q:Int) (h0:0≤q) (h1:q<2 ^ 62):bits BinOp.and IntKind.i64 q 1=q % 2:=by
 have:=bits_mask .i64 62 (by decide) (fun n a b=>by rw [IntKind.wrap_i64];omega) 1 (by decide) q h0 h1;simpa using this
theorem PE {a:Int} (h0:0≤a) {b:Int} (h1:a<b) (n:Nat):0≤a / 2 ^ n∧a / 2 ^ n<b:=by
 have hp:(0:Int)<2 ^ n:=by exact_mod_cast Nat.two_pow_pos n
 refine ⟨Int.ediv_nonneg h0 (Int.le_of_lt hp),?_⟩;have:=Int.ediv_le_self (2 ^ n:Int) h0;omega
theorem U3 {a v:Int} (h0:0≤a) (h1:a<4096):(bits BinOp.and IntKind.i64 (a / 2 ^ v.toNat) 1 == 1)=KJ a v:=by
 have:=PE h0 h1 v.toNat;rw [Sm _ this.1 (by omega)];rfl
theorem Qv (W:World) (o o':Obj):blk (W.alloc o) W.heap.size o' = W.alloc o':=by
 unfold blk World.alloc;congr 1
 apply Array.ext_getElem?;intro i;by_cases h:i=W.heap.size
 ·subst h;simp
 ·have h2:¬ W.heap.size=i:=fun e=>h e.symm;rw [AZ,if_neg h2,Array.getElem?_push,Array.getElem?_push,if_neg h,if_neg h]
theorem Mt (W:World) (r:Nat) (hr:r=W.heap.size) (k v:Int):(Instr.mapUpdate 146 (.map (some r)) (.int .i64 k) (.int .i64 v)).run prog (W.alloc (.map #[] 0)) =
  .ok () (W.alloc (.map #[{ key:=.int .i64 k,val:=.int .i64 v,born:=0 }] 1)):=by
 subst hr;have h1:(W.alloc (.map #[] 0)).heap[W.heap.size]?=some (.map #[] 0):=(MapKept.heap_alloc W _).1;have hf:=FZ (ev:=eI) In k (W.alloc (.map #[] 0)) [] [] rfl;have hs:=MapKept.run_setObj_map (P:=prog) (.map #[{ key:=.int .i64 k,val:=.int .i64 v,born:=0 }] 1) h1;simp only [eI] at hf;unfold Instr.mapUpdate;simp only [Sem.run_bind,run_underlying underlying146,Result.andThen_ok,MapKept.run_getObj_map h1,Sf false 9999,hf,spot];exact hs.trans (congrArg (Result.ok ()) (Qv W _ _))
theorem Lb (W:World) (r:Nat) (hr:r=W.heap.size) (k v k2 v2:Int) (hk:k≠k2) :
  (Instr.mapUpdate 146 (.map (some r)) (.int .i64 k2) (.int .i64 v2)).run prog (W.alloc (.map #[{ key:=.int .i64 k,val:=.int .i64 v,born:=0 }] 1)) =
  .ok () (W.alloc (.map #[{ key:=.int .i64 k,val:=.int .i64 v,born:=0 },{ key:=.int .i64 k2,val:=.int .i64 v2,born:=1 }] 2)):=by
 subst hr;have h1:(W.alloc (.map #[{ key:=.int .i64 k,val:=.int .i64 v,born:=0 }] 1)).heap[W.heap.size]?=some (.map #[{ key:=.int .i64 k,val:=.int .i64 v,born:=0 }] 1):=(MapKept.heap_alloc W _).1;have hf:=FZ (ev:=eI) In k2 (W.alloc (.map #[{ key:=.int .i64 k,val:=.int .i64 v,born:=0 }] 1)) [{ key:=.int .i64 k,val:=.int .i64 v,born:=0 }] [(k,v)] rfl;have hs:=MapKept.run_setObj_map (P:=prog) (.map #[{ key:=.int .i64 k,val:=.int .i64 v,born:=0 },{ key:=.int .i64 k2,val:=.int .i64 v2,born:=1 }] 2) h1;simp only [eI,spot,hk,if_false] at hf;unfold Instr.mapUpdate;simp only [Sem.run_bind,run_underlying underlying146,Result.andThen_ok,MapKept.run_getObj_map h1,Sf false 9999,hf];exact hs.trans (congrArg (Result.ok ()) (Qv W _ _))
theorem dD (W:World) (k v k2 v2:Int) (hk:k≠k2):Bi eI eI (W.alloc (.map #[{ key:=.int .i64 k,val:=.int .i64 v,born:=0 },{ key:=.int .i64 k2,val:=.int .i64 v2,born:=1 }] 2)) W.heap.size [(k,v),(k2,v2)]:=
 ⟨_,_,(MapKept.heap_alloc W _).1,by simp [eI],by simp,by simp,by simp [hk]⟩
def ExC (B:SB) (p q:Nat) (X:Int) (w:World):Prop:=AK w p #[.int .i64 X]∧AK w q #[.pointer (some ⟨B.b,0,none⟩)]
structure kO (S S':ST) (R:ST→Int→Int→Prop) (f r c:Int):Prop where
 ext:EK S S'
 wf:WF S'
 known:Jj S'
 rel:R S' f r
 next:S'.next≤S.next+c
def VF (B:SB) (w:World) (S:ST) (R:ST→Int→Int→Prop) (f c:Int) (e:Ending) (w':World):Prop:=
 ∃ r S',e=.returned (.int .i64 r)∧Aj w' B S'∧AA B.own w w'∧kO S S' R f r c
theorem jK {B:SB} {w:World} {S:ST} {X:Int} {p q:Nat} (f v l h rl rh:Int) (hS:Aj w B S) (hw:WF S) (hk:Jj S) (hC:ExC B p q X w) (n8:S.n≤12) (x0:0≤X) (x1:X<4096) (ht:DD S.N f=some (v,l,h)) (al:Pn X S l rl) (ah:Pn X S h rh) (hlim:S.next+(Ge S.n+1)<GN) :
  Calls prog 212 #[.int .i64 v,.int .i64 rl,.int .i64 rh,.pointer (some ⟨p,0,none⟩),.pointer (some ⟨q,0,none⟩)] w fun e w'=>∃ r S',e=.returned (.int .i64 r)∧Aj w' B S'∧AA B.own w w'∧EK S S'∧WF S'∧Jj S'∧Pn X S' f r∧S'.next≤S.next+(Ge S.n+1):=by
 have hc0:=EX S.n;obtain ⟨x1',x2,v0,v1,x5,okl,okh,pll,plh⟩:=hw.node f v l h ht;have v8:v<12:=by omega
 have h5:=hC.1.cell 0;have h3:=hC.2.cell 0;simp at h5 h3;have hb:=U3 (v:=v) x0 x1;cases hbit:KJ X v with
 | true=>
  rw [hbit] at hb;have hc:=AD (Tt rl rh hS hw hk al.1 ah.1 (by omega));have Hbit:=AD hbit;have Ht:=AD ht;have Hlim:=AD hlim;clear hbit ht hlim hc0 x1' x2 x5 pll plh;go_in
  go_wp2_with fail
  refine hc.out.mono ?_;rintro e w' ⟨r,S',rfl,hs,hkp,P⟩;go_wp2
  go_ret
  exact ⟨r,S',rfl,hs,hkp,P.ext,P.wf,P.known,Pn.bit hw P.wf P.ext Ht.out Hbit.out al ah P.ok P.den P.lev,by have:=P.next;omega⟩
 | false=>
  rw [hbit] at hb;have hl1:=al.2.1;have hl2:=ah.2.1;have hc:=AD (JE hS hw v rl rh v0 v1 al.1 ah.1 (fun _=>⟨by omega,by omega⟩) (by unfold GN at hlim;omega));have Hbit:=AD hbit;have Ht:=AD ht;have Hlim:=AD hlim;have Hc0:=AD hc0;clear hbit ht hlim hc0 x1' x2 x5 pll plh hl1 hl2;go_in
  go_wp2_with fail
  refine hc.out.mono ?_;rintro e w' ⟨r,S',rfl,hs,hkp,P⟩;go_wp2
  go_ret
  exact ⟨r,S',rfl,hs,hkp,P.ext,P.wf,hk.ext P.ext hw P.wf P.known,Pn.keep hw Ht.out Hbit.out al ah P,by have:=P.next;have:=Hc0.out;omega⟩
theorem Wl (B:SB) (rd p q n:Nat) (X:Int) (n8:n≤12) (x0:0≤X) (x1:X<4096) (hr:rd∉B.own) (hp:p∉rd :: B.own) (hq:q∉rd :: B.own) :
  MW B rd 212 (fun v rl rh=>#[.int .i64 v,.int .i64 rl,.int .i64 rh,.pointer (some ⟨p,0,none⟩),.pointer (some ⟨q,0,none⟩)]) (ExC B p q X) (fun S=>S.n=n) (Pn X) (Ge n+1) where
 sep:=hr
 keepC w w' h k:=⟨h.1.keeps k hp,h.2.keeps k hq⟩
 mono S S' f r okf x hw hw' _ _ h:=Pn.mono S S' f r okf x hw hw' h
 cost:=by have:=EX n;omega
 join w S f v l h rl rh hS hw hk hi hC ht al ah hlim:=by
  subst hi;exact (jK f v l h rl rh hS hw hk hC n8 x0 x1 ht al ah hlim).mono fun e w' ⟨r,S',a1,a2,a3,a4,a5,a6,a7,a8⟩=>⟨r,S',a1,a2,a3,a4,a5,a6,a4.n,a7,a8⟩
attribute [local go_sem] Mt Lb
theorem Aj.fresh {w:World} {B:SB} {S:ST} (h:Aj w B S) {i:Nat} (hi:w.heap.size≤i):i∉B.own:=fun x=>by have:=h.lt _ x;omega
theorem By {i j:Nat} {l:List Nat} (h:i≠j) (k:i∉l):i∉j :: l:=fun x=>(AG.1 x).elim h k
theorem size_alloc (w:World) (o:Obj):(w.alloc o).heap.size=w.heap.size+1:=by simp
theorem SS {B:SB} {w:World} {S:ST} (f X:Int) (hS:Aj w B S) (hw:WF S) (hk:Jj S) (okf:S.ok f) (n8:S.n≤12) (x0:0≤X) (x1:X<4096) (hlim:S.next+fc (Ge S.n+1) S.n<GN) :
  Calls prog 147 #[.pointer (some ⟨B.b,0,none⟩),.int .i64 f,.int .i64 X] w (VF B w S (Pn X) f (fc (Ge S.n+1) S.n)):=by
 have hmm:=@run_makeMap prog;have E:=Wl B (w.heap.size+1+1) (w.heap.size+1) w.heap.size S.n X n8 x0 x1 (hS.fresh (by omega)) (By (by omega) (hS.fresh (by omega))) (By (by omega) (hS.fresh (by omega)));have hc:=AD (SL E S.n);have Hlim:=AD hlim;clear hlim E;go_in
 go_wp2_with fail
 have s1:=size_alloc w (.cells #[.pointer (some ⟨B.b,0,none⟩)] 135);have s2:=size_alloc (w.alloc (.cells #[.pointer (some ⟨B.b,0,none⟩)] 135)) (.cells #[.int .i64 X] 3);have a1:=AK.new w #[.pointer (some ⟨B.b,0,none⟩)] 135;have a2:=AK.new (w.alloc (.cells #[.pointer (some ⟨B.b,0,none⟩)] 135)) #[.int .i64 X] 3;have a3:=dD ((w.alloc (.cells #[.pointer (some ⟨B.b,0,none⟩)] 135)).alloc (.cells #[.int .i64 X] 3)) 0 0 1 1 (by decide);have k1:=AA.alloc [] w (.cells #[.pointer (some ⟨B.b,0,none⟩)] 135);have k2:=AA.alloc [] (w.alloc (.cells #[.pointer (some ⟨B.b,0,none⟩)] 135)) (.cells #[.int .i64 X] 3);have k3:=AA.alloc [] ((w.alloc (.cells #[.pointer (some ⟨B.b,0,none⟩)] 135)).alloc (.cells #[.int .i64 X] 3)) (.map #[{ key:=.int .i64 0,val:=.int .i64 0,born:=0 },{ key:=.int .i64 1,val:=.int .i64 1,born:=1 }] 2);have b1:=(a1.keeps k2).keeps k3;have b2:=a2.keeps k3;rw [s1] at b2 s2;rw [s2] at a3;have kk:=(k1.trans k2).trans k3;have hS3:=hS.keeps kk;refine (hc.out _ S [(0,0),(1,1)] f hS3 hw hk rfl ⟨b2,b1⟩ a3 ⟨?_,rfl,rfl⟩ okf ?_ Hlim.out).mono ?_
 ·intro g r hg;have hm:=FE hg;simp only [AG,Prod.mk.injEq,A7,or_false] at hm;rcases hm with ⟨rfl,rfl⟩ | ⟨rfl,rfl⟩
  ·exact ⟨Es S,Pn.const X S (.inl rfl)⟩
  ·exact ⟨IR S,Pn.const X S (.inr rfl)⟩
 ·have:=(Be hw okf).1;omega
 rintro e w' ⟨r,S',D',rfl,hs,hd,hkp,hC',p⟩;go_wp2
 go_ret
 refine ⟨r,S',rfl,hs,(kk.mono (by simp)).trans_new hkp ?_,p.ext,p.wf,p.known,p.rel,p.next⟩;intro i hi;rcases AG.1 hi with e | x
 ·exact .inr (by omega)
 ·exact .inl x
end
section
open Go.RowKit
theorem Tu {B:SB} {w:World} {S:ST} (hS:Aj w B S):Calls prog 143 #[.pointer (some ⟨B.b,0,none⟩)] w fun e w'=>e=.returned (.int .i64 S.n)∧w' = w:=by
 have c0:=hS.head.cell 0;simp at c0;go_in
 go_wp2
 go_ret
 exact ⟨rfl,rfl⟩
attribute [local go_sem] Mt Lb
def IC (a:Int):Int→Bool:=fun v=>KJ a v
end
section
open Go.RowKit
def Q7 (G:ST→Int→Prop) (B:SB) (rd:Nat) (cl:Value) (C:World→Prop) (I:ST→Prop) (R:ST→Int→Int→Prop) (cj:Int) (k:Nat):Prop:=
 ∀ (w:World) (S:ST) (D:List (Int×Int)) (f:Int),Aj w B S→WF S→Jj S→I S→C w→Bi eI eI w rd D→nE R S D→S.ok f→G S f→(S.n:Int) - S.lev f≤k→S.next+fc cj k<GN →
  Calls prog 210 #[.pointer (some ⟨B.b,0,none⟩),.int .i64 f,.map (some rd),cl] w (Gt B rd C I R cj w S f k)
structure Pm (G:ST→Int→Prop) (B:SB) (rd:Nat) (fid:FuncId) (args:Int→Int→Int→Array Value) (C:World→Prop) (I:ST→Prop) (R:ST→Int→Int→Prop) (cj:Int):Prop where
 sep:rd∉B.own
 keepC:∀ w w',C w→AA (rd :: B.own) w w'→C w'
 mono:∀ S S' f r,S.ok f→EK S S'→WF S→WF S'→I S→I S'→R S f r→R S' f r
 cost:0≤cj
 down:∀ S f v l h,WF S→G S f→DD S.N f=some (v,l,h)→G S l∧G S h
 up:∀ S S' f,EK S S'→WF S→WF S'→S.ok f→G S f→G S' f
 join:∀ w S f v l h rl rh,Aj w B S→WF S→Jj S→I S→C w→DD S.N f=some (v,l,h)→G S f→R S l rl→R S h rh→S.next+cj<GN →
  Calls prog fid (args v rl rh) w fun e w'=>∃ r S',e=.returned (.int .i64 r)∧Aj w' B S'∧AA B.own w w'∧EK S S'∧WF S'∧Jj S'∧I S'∧R S' f r∧S'.next≤S.next+cj
theorem SK {B:SB} {rd:Nat} {C:World→Prop} {I:ST→Prop} {R:ST→Int→Int→Prop} {G:ST→Int→Prop} {cj:Int} {p q:Nat} (E:Pm G B rd 211 (fun v rl rh=>#[.int .i64 v,.int .i64 rl,.int .i64 rh,.pointer (some ⟨p,0,none⟩),.pointer (some ⟨q,0,none⟩)]) C I R cj) {k:Nat}
  (ih:Hid (Q7 G B rd (.func (.func 211) #[] #[.pointer (some ⟨p,0,none⟩),.pointer (some ⟨q,0,none⟩)]) C I R cj k)) {w:World} {S:ST} {D:List (Int×Int)} (f v l h:Int) (hS0:Aj w B S) (hw:WF S) (hk:Jj S) (hi:I S) (hC:C w) (hD0:Bi eI eI w rd D) (hd:nE R S D) (hG:G S f) (hno:DD D f=none) (ht:DD S.N f=some (v,l,h))
  (hlev:(S.n:Int) - S.lev f≤(k+1:Nat)) (hlim:S.next+fc cj (k+1)<GN) :
  Calls prog 210 #[.pointer (some ⟨B.b,0,none⟩),.int .i64 f,.map (some rd),.func (.func 211) #[] #[.pointer (some ⟨p,0,none⟩),.pointer (some ⟨q,0,none⟩)]] w (Gt B rd C I R cj w S f (k+1)):=by
 have hn:=hw.node f v l h ht;have hsep:=E.sep;have hl:=look71' hS0 ht;have hlk:=EM (P:=prog) underlying146 In (z:=.int .i64 0) Kp hD0 f true;simp only [hno,Cb,CB,eI,B6,if_true] at hlk;have c2:=hS0.head.cell 2;simp at c2;have Hlim:=AD hlim;have Hlev:=AD hlev;have Ht:=AD ht;have Hn:=AD hn;have Hg:=AD (E.down _ _ _ _ _ hw hG ht);have HG:=AD hG;clear hlim hlev ht hn hno hG;go_in
 go_wp2
 have hN:=AK.new w #[.int .i64 v,.int .i64 l,.int .i64 h] 228;have hS:=hS0.alloc (.cells #[.int .i64 v,.int .i64 l,.int .i64 h] 228);have hK:=AA.alloc (rd :: B.own) w (.cells #[.int .i64 v,.int .i64 l,.int .i64 h] 228);have hD:Bi eI eI _ rd D:=hD0.of_heap (Go.RowKit.Below.heap_alloc w (.cells #[.int .i64 v,.int .i64 l,.int .i64 h] 228) rd hD0.lt);have hC1:=E.keepC _ _ hC hK;have hne:w.heap.size∉rd :: B.own:=fun x=>by
  rcases AG.1 x with e | x
  ·exact absurd hD0.lt (by rw [e];omega)
  ·exact Nat.lt_irrefl _ (hS0.lt _ x)
 clear hl hlk c2;generalize w.alloc (.cells #[.int .i64 v,.int .i64 l,.int .i64 h] 228)=W at hN hS hK hD hC1 ⊢;generalize w.heap.size=z at hN hne ⊢;have hC2:C W.drew:=E.keepC _ _ hC1 (AA.drew _ _);have hD2:Bi eI eI W.drew rd D:=hD.of_heap rfl;have hN2:AK W.drew z _:=hN.of_heap rfl;have hK2:=hK.trans (AA.drew (rd :: B.own) W);have hS2:=hS.drew;have g0:=Fb hN
 go_region_held3 (fun w'=>w'.cell? ⟨z,0,none⟩=some (.int .i64 v)∧w'.cell? ⟨z,1,none⟩=some (.int .i64 l)∧w'.cell? ⟨z,2,none⟩=some (.int .i64 h)) (first | exact Fb hN2 | exact Fb hN3 | exact Fb hN4 | exact Fb hN5)
  (first
   | (go_at_call_of 210 (Value.int IntKind.i64 l)
      refine (ih.out W.drew S D l hS2 hw hk hi hC2 hD2 hd Hn.out.2.2.2.2.2.1 Hg.out.1 ?_ ?_).mono ?_
      ·have:=Hlev.out;have:=Hn.out.2.2.2.2.2.2.2.1;rw [Cw hw Ht.out] at *;dsimp only at *;omega
      ·have:=Hlim.out;simp only [fc] at this;have:=Ir E.cost k;have:=E.cost;omega
      rintro e W3 ⟨r0,S1,D1,rfl,hS3,hD3,k3,hC3,p0⟩;have hN3:=hN2.keeps k3 hne
      have hK3:=hK2.trans k3)
   | (go_at_call_of 210 (Value.int IntKind.i64 h)
      refine (ih.out W3 S1 D1 h hS3 p0.wf p0.known p0.inv hC3 hD3 p0.dok (p0.ext.ok Hn.out.2.2.2.2.2.2.1) (E.up _ _ _ p0.ext hw p0.wf Hn.out.2.2.2.2.2.2.1 Hg.out.2) ?_ ?_).mono ?_
      ·rw [p0.ext.lev Hn.out.2.2.2.2.2.2.1,p0.ext.n];have:=Hlev.out;have:=Hn.out.2.2.2.2.2.2.2.2;rw [Cw hw Ht.out] at *;dsimp only at *;omega
      ·have:=Hlim.out;simp only [fc] at this;have:=p0.next;have:=E.cost;omega
      rintro e W4 ⟨r1,S2,D2,rfl,hS4,hD4,k4,hC4,p1⟩;have hN4:=hN3.keeps k4 hne
      have hK4:=hK3.trans k4)
   | (go_at_call 211
      refine (E.join W4 S2 f v l h r0 r1 hS4 p1.wf p1.known p1.inv hC4 (p1.ext.node _ _ (p0.ext.node _ _ Ht.out)) (E.up _ _ _ (p0.ext.trans p1.ext) hw p1.wf (.inr (.inr ⟨Hn.out.1,_,Ht.out⟩)) HG.out) (E.mono _ _ _ _ (p0.ext.ok Hn.out.2.2.2.2.2.1) p1.ext p0.wf p1.wf p0.inv p1.inv p0.rel) p1.rel ?_).mono ?_
      ·have:=Hlim.out;simp only [fc] at this;have:=p0.next;have:=p1.next;omega
      rintro e W5 ⟨r,S3,rfl,hS5,k5,x5,w5,kk5,i5,rel5,n5⟩;have k5':AA (rd :: B.own) W4 W5:=k5.mono (fun i hi=>AP _ hi);have hN5:=hN4.keeps k5' hne;have hK5:=hK4.trans k5';have hC5:=E.keepC _ _ hC4 k5'
      have hD5:Bi eI eI W5 rd D2:=hD4.of_heap (k5.block rd hD4.lt hsep)))
 all_goals
  obtain ⟨o,hrun,hmm⟩:=Fm (P:=prog) underlying146 In hD5 f r;simp only [eI] at hrun;go_wp2
  go_ret
  refine ⟨r,S3,put D2 f r,rfl,hS5.of_heap (fun i hi=>CQ o (fun e=>hsep (e ▸ hi))),hmm,hK5.trans ((AA.blk _ _ _).mono (by simp)),E.keepC _ _ hC5 ((AA.blk _ _ _).mono (by simp)),?_⟩;exact IX E.mono hw Ht.out p0 p1 x5 w5 kk5 i5 rel5 n5
theorem QA {B:SB} {rd:Nat} {C:World→Prop} {I:ST→Prop} {R:ST→Int→Int→Prop} {G:ST→Int→Prop} {cj:Int} {p q:Nat} (E:Pm G B rd 211 (fun v rl rh=>#[.int .i64 v,.int .i64 rl,.int .i64 rh,.pointer (some ⟨p,0,none⟩),.pointer (some ⟨q,0,none⟩)]) C I R cj):∀ k,Q7 G B rd (.func (.func 211) #[] #[.pointer (some ⟨p,0,none⟩),.pointer (some ⟨q,0,none⟩)]) C I R cj k:=by
 intro k;induction k with
 | zero=>
  intro w S D f hS hw hk hi hC hD hd okf hG hl hlim;have fl:¬ 2≤f:=fun x=>by have:=(DE hw okf).2 x;omega
  have hs:(DD D f).isSome=true:=by
   rcases okf with rfl | rfl | ⟨x,_⟩
   ·exact hd.zero
   ·exact hd.one
   ·exact absurd x fl
  obtain ⟨r,hr⟩:=Bf.1 hs;exact Gr E.cost 0 hS hw hk hi hC hD hd hr
 | succ k ih=>
  intro w S D f hS hw hk hi hC hD hd okf hG hl hlim;cases hg:DD D f with
  | some r=>exact Gr E.cost _ hS hw hk hi hC hD hd hg
  | none=>
   rcases okf with rfl | rfl | ⟨x,⟨v,l,h⟩,ht⟩
   ·have:=hd.zero;rw [hg] at this;cases this
   ·have:=hd.one;rw [hg] at this;cases this
   ·exact SK E (AD ih) f v l h hS hw hk hi hC hD hd hG hg ht hl hlim
def Hk (k:Nat) (S:ST) (f:Int):Prop:=∀ v:Int,(k:Int)≤v→v<S.n→∀ σ b,S.den f (Kr σ v b)=S.den f σ
theorem Hk.var {k:Nat} {S:ST} {f v l h:Int} (hw:WF S) (hh:Hk k S f) (ht:DD S.N f=some (v,l,h)):v<k:=by
 apply Classical.byContradiction;intro hc;obtain ⟨_,_,v0,v1,_⟩:=hw.node f v l h ht;exact hangs hw ht fun σ=>by rw [hh v (by omega) v1,hh v (by omega) v1]
theorem Hk.down {k:Nat} {S:ST} {f v l h:Int} (hw:WF S) (hh:Hk k S f) (ht:DD S.N f=some (v,l,h)):Hk k S l∧Hk k S h:=by
 have hv:=hh.var hw ht;obtain ⟨_,_,v0,v1,_,okl,okh,pl,ph⟩:=hw.node f v l h ht;constructor
 ·intro u u0 u1 σ b;have h1:=hh u u0 u1 (Kr σ v false) b;rw [Cg hw ht,Cg hw ht,OH _ _ (by omega:v≠u),Lp,TD _ (by omega:v≠u)] at h1;simp only [BQ,if_false] at h1;rwa [CN hw okl v0 v1 pl,CN hw okl v0 v1 pl] at h1
 ·intro u u0 u1 σ b;have h1:=hh u u0 u1 (Kr σ v true) b;rw [Cg hw ht,Cg hw ht,OH _ _ (by omega:v≠u),Lp,TD _ (by omega:v≠u)] at h1;simp only [if_true] at h1;rwa [CN hw okh v0 v1 ph,CN hw okh v0 v1 ph] at h1
theorem Hk.ext {k:Nat} {S S':ST} {f:Int} (x:EK S S') (hw:WF S) (hw':WF S') (okf:S.ok f) (hh:Hk k S f):Hk k S' f:=fun v v0 v1 σ b=>by
 rw [x.den hw hw' okf,x.den hw hw' okf];exact hh v v0 (by rw [←x.n];exact v1) σ b
def SbC (B:SB) (p q bt ct:Nat) (bys:List Int) (w:World):Prop:=AK w p #[.pointer (some ⟨B.b,0,none⟩)]∧AK w q #[.slice (some ⟨bt,0,none⟩) bys.length ct]∧B8 w bt bys
theorem OZ {B:SB} {p q bt ct:Nat} {bys:List Int} {w:World} (h:SbC B p q bt ct bys w) {i:Nat} {u:Int} (hu:bys[i]?=some u) :
  w.cell? ⟨p,0,none⟩=some (.pointer (some ⟨B.b,0,none⟩))∧w.cell? ⟨q,0,none⟩=some (.slice (some ⟨bt,0,none⟩) bys.length ct)∧w.cell? ⟨bt,i,none⟩=some (.int .i64 u):=
 ⟨h.1.cell 0,h.2.1.cell 0,h.2.2.cell hu⟩
def Zp (S:ST) (bys:List Int) (σ:Int→Bool):Int→Bool:=fun v=>S.den ((bys[v.toNat]?).getD 0) σ
def SbR (bys:List Int) (S:ST) (f r:Int):Prop:=S.ok r∧∀ σ:Int→Bool,S.den r σ=S.den f (Zp S bys σ)
theorem RZ {S S':ST} {bys:List Int} (x:EK S S') (hw:WF S) (hw':WF S') (hb:∀ b∈bys,S.ok b) (σ:Int→Bool):Zp S' bys σ=Zp S bys σ:=by
 funext v
 unfold Zp;cases hv:bys[v.toNat]? with
 | none=>simp only [CB,CI]
 | some b=>simp only [BU];exact x.den hw hw' (hb b (AE hv)) σ
theorem aJ {B:SB} {w:World} {S:ST} {p q bt ct:Nat} {bys:List Int} (f v l h rl rh y:Int) (hS:Aj w B S) (hw:WF S) (hk:Jj S) (hC:SbC B p q bt ct bys w) (hp:p∉B.own) (hq:q∉B.own) (hbt:bt∉B.own)
  (hby:∀ b∈bys,S.ok b) (hy:bys[v.toNat]?=some y) (ht:DD S.N f=some (v,l,h)) (al:SbR bys S l rl) (ah:SbR bys S h rh) (hlim:S.next+Ge S.n<GN) :
  Calls prog 211 #[.int .i64 v,.int .i64 rl,.int .i64 rh,.pointer (some ⟨p,0,none⟩),.pointer (some ⟨q,0,none⟩)] w fun e w'=>∃ r S',e=.returned (.int .i64 r)∧Aj w' B S'∧AA B.own w w'∧EK S S'∧WF S'∧Jj S'∧SbR bys S' f r∧S'.next≤S.next+Ge S.n:=by
 obtain ⟨x1,x2,v0,v1,x5,okl,okh,pll,plh⟩:=hw.node f v l h ht;have hvl:v<bys.length:=by have:=(AL.1 hy).1;omega
 have okf:S.ok f:=.inr (.inr ⟨x1,_,ht⟩);have hyy:=hby y (AE hy);have hc:=AD (fun (w:World) (h:Aj w B S)=>Gq y rh rl h hw hk hyy ah.1 al.1 hlim);have Ht:=AD ht;have Hlim:=AD hlim;have Hy:=AD hy;have g0:=OZ hC hy;have hC2:SbC B p q bt ct bys w.drew:=⟨hC.1.of_heap rfl,hC.2.1.of_heap rfl,hC.2.2.of_heap rfl⟩;have hS2:=hS.drew;clear ht hlim x1 x2 x5 pll plh hy hyy;go_in
 go_wp2
 go_region_held3 (fun w'=>w'.cell? ⟨p,0,none⟩=some (.pointer (some ⟨B.b,0,none⟩))∧w'.cell? ⟨q,0,none⟩=some (.slice (some ⟨bt,0,none⟩) bys.length ct)∧w'.cell? ⟨bt,v.toNat,none⟩=some (.int .i64 y)) (first | exact OZ hC2 Hy.out | exact OZ hC3 Hy.out)
  (first
   | (go_at_call 141
      refine (hc.out _ hS2).mono ?_;rintro e W3 ⟨r,S2,rfl,hS4,k4,p2⟩
      have hC3:SbC B p q bt ct bys W3:=⟨hC2.1.keeps k4 hp,hC2.2.1.keeps k4 hq,hC2.2.2.of_heap (k4.block _ hC2.2.2.lt hbt)⟩))
 all_goals
  go_wp2
  go_ret
  refine ⟨r,S2,rfl,hS4,(AA.drew _ _).trans k4,p2.ext,p2.wf,p2.known,⟨p2.ok,fun σ=>?_⟩,p2.next⟩;rw [p2.den,ah.2,al.2,p2.ext.den hw p2.wf okf,RZ p2.ext hw p2.wf hby,Cg hw Ht.out];simp only [Zp,Hy.out,BU]
theorem gK (B:SB) (rd p q bt ct n k:Nat) (bys:List Int) (hr:rd∉B.own) (hp:p∉rd :: B.own) (hq:q∉rd :: B.own) (hb:bt∉rd :: B.own) (hlen:k≤bys.length) :
  Pm (Hk k) B rd 211 (fun v rl rh=>#[.int .i64 v,.int .i64 rl,.int .i64 rh,.pointer (some ⟨p,0,none⟩),.pointer (some ⟨q,0,none⟩)]) (SbC B p q bt ct bys) (fun S=>S.n=n∧∀ b∈bys,S.ok b) (SbR bys) (Ge n) where
 sep:=hr
 keepC w w' h k:=⟨h.1.keeps k hp,h.2.1.keeps k hq,h.2.2.of_heap (k.block _ h.2.2.lt hb)⟩
 mono S S' f r okf x hw hw' hi _ h:=⟨x.ok h.1,fun σ=>by rw [x.den hw hw' h.1,h.2,x.den hw hw' okf,RZ x hw hw' hi.2]⟩
 cost:=EX n
 down S f v l h hw hg ht:=hg.down hw ht
 up S S' f x hw hw' okf hg:=hg.ext x hw hw' okf
 join w S f v l h rl rh hS hw hk hi hC ht hG al ah hlim:=by
  obtain ⟨hi,hby⟩:=hi;subst hi;obtain ⟨x1,x2,v0,v1,_⟩:=hw.node f v l h ht;have hv:=hG.var hw ht;have hl2:v.toNat<bys.length:=by omega
  exact (aJ f v l h rl rh _ hS hw hk hC (fun x=>hp (AP _ x)) (fun x=>hq (AP _ x)) (fun x=>hb (AP _ x)) hby (AB hl2) ht al ah hlim).mono fun e w' ⟨r,S',a1,a2,a3,a4,a5,a6,a7,a8⟩=>⟨r,S',a1,a2,a3,a4,a5,a6,⟨a4.n,fun b hb=>a4.ok (hby b hb)⟩,a7,a8⟩
attribute [local go_sem] Mt Lb
theorem RO {B:SB} {w:World} {S:ST} (f:Int) (bt ct:Nat) (k:Nat) (bys:List Int) (hS:Aj w B S) (hw:WF S) (hk:Jj S) (okf:S.ok f) (hrow:B8 w bt bys) (hbt:bt∉B.own) (hlen:k≤bys.length) (hby:∀ b∈bys,S.ok b) (hG:Hk k S f) (hlim:S.next+fc (Ge S.n) S.n<GN) :
  Calls prog 146 #[.pointer (some ⟨B.b,0,none⟩),.int .i64 f,.slice (some ⟨bt,0,none⟩) bys.length ct] w (VF B w S (SbR bys) f (fc (Ge S.n) S.n)):=by
 have hmm:=@run_makeMap prog;have hbl:=hrow.lt;have E:=gK B (w.heap.size+1+1) w.heap.size (w.heap.size+1) bt ct S.n k bys (hS.fresh (by omega)) (By (by omega) (hS.fresh (by omega))) (By (by omega) (hS.fresh (by omega))) (By (by omega) hbt) hlen;have hc:=AD (QA E S.n);have Hlim:=AD hlim;have Hlen:=AD hlen;have Hby:=AD hby;have HG:=AD hG;clear hlim E hlen hbl hby hG;go_in
 go_wp2_with fail
 have s1:=size_alloc w (.cells #[.pointer (some ⟨B.b,0,none⟩)] 135);have s2:=size_alloc (w.alloc (.cells #[.pointer (some ⟨B.b,0,none⟩)] 135)) (.cells #[.slice (some ⟨bt,0,none⟩) bys.length ct] 40);have a1:=AK.new w #[.pointer (some ⟨B.b,0,none⟩)] 135;have a2:=AK.new (w.alloc (.cells #[.pointer (some ⟨B.b,0,none⟩)] 135)) #[.slice (some ⟨bt,0,none⟩) bys.length ct] 40;have a3:=dD ((w.alloc (.cells #[.pointer (some ⟨B.b,0,none⟩)] 135)).alloc (.cells #[.slice (some ⟨bt,0,none⟩) bys.length ct] 40)) 0 0 1 1 (by decide);have k1:=AA.alloc [] w (.cells #[.pointer (some ⟨B.b,0,none⟩)] 135);have k2:=AA.alloc [] (w.alloc (.cells #[.pointer (some ⟨B.b,0,none⟩)] 135)) (.cells #[.slice (some ⟨bt,0,none⟩) bys.length ct] 40);have k3:=AA.alloc [] ((w.alloc (.cells #[.pointer (some ⟨B.b,0,none⟩)] 135)).alloc (.cells #[.slice (some ⟨bt,0,none⟩) bys.length ct] 40)) (.map #[{ key:=.int .i64 0,val:=.int .i64 0,born:=0 },{ key:=.int .i64 1,val:=.int .i64 1,born:=1 }] 2);have b1:=(a1.keeps k2).keeps k3;have b2:=a2.keeps k3;rw [s1] at b2 s2;rw [s2] at a3;have kk:=(k1.trans k2).trans k3;have hS3:=hS.keeps kk;have hrow3:=hrow.of_heap (kk.block _ hrow.lt (by simp));refine (hc.out _ S [(0,0),(1,1)] f hS3 hw hk ⟨rfl,Hby.out⟩ ⟨b1,b2,hrow3⟩ a3 ⟨?_,rfl,rfl⟩ okf HG.out ?_ Hlim.out).mono ?_
 ·intro g r hg;have hm:=FE hg;simp only [AG,Prod.mk.injEq,A7,or_false] at hm;rcases hm with ⟨rfl,rfl⟩ | ⟨rfl,rfl⟩
  ·exact ⟨Es S,Es S,fun σ=>by rw [CI,CI]⟩
  ·exact ⟨IR S,IR S,fun σ=>by rw [Dq,Dq]⟩
 ·have:=(Be hw okf).1;omega
 rintro e w' ⟨r,S',D',rfl,hs,hd,hkp,hC',p⟩;go_wp2
 go_ret
 refine ⟨r,S',rfl,hs,(kk.mono (by simp)).trans_new hkp ?_,p.ext,p.wf,p.known,p.rel,p.next⟩;intro i hi;rcases AG.1 hi with e | x
 ·exact .inr (by omega)
 ·exact .inl x
end
section
open Go.RowKit
theorem PQ (a v:Nat):KJ (a:Int) (v:Int)=a.testBit v:=by
 unfold KJ;rw [Nat.testBit_eq_decide_div_mod_eq,BE];congr 1
 rw [eq_iff_iff];constructor
 ·intro h;have:((a / 2 ^ v % 2:Nat):Int)=1:=by push_cast;exact h
  omega
 ·intro h;have:((a / 2 ^ v % 2:Nat):Int)=1:=by omega
  push_cast at this;exact this
def KL:Nat→Nat→List Nat
 | 0,_=>[0]
 | k+1,i=>KL k (i+1)++(KL k (i+1)).map fun y=>y+2 ^ i
def ST.tl (S:ST):Nat→Nat→Int→Nat→List Nat
 | 0,_,f,a=>if f=0 then [] else [a]
 | k+1,i,f,a=>if f=0 then [] else S.tl k (i+1) (S.cof f i).1 a++S.tl k (i+1) (S.cof f i).2 (a+2 ^ i)
theorem Iv:∀ {k i y:Nat},y∈KL k i→∃ z,z<2 ^ k∧y=z * 2 ^ i
 | 0,i,y,h=>⟨0,by simp,by simpa [KL] using h⟩
 | k+1,i,y,h=>by
  simp only [KL,AC,AM] at h;rcases h with h | ⟨x,h,rfl⟩
  ·obtain ⟨z,hz,rfl⟩:=Iv h;exact ⟨2 * z,by rw [CX];omega,by rw [CX,DL (2 ^ i) 2,←Nat.mul_assoc,DL z 2]⟩
  ·obtain ⟨z,hz,rfl⟩:=Iv h;exact ⟨2 * z+1,by rw [CX];omega,by rw [CX,DL (2 ^ i) 2,←Nat.mul_assoc,DL z 2,Nat.add_mul,Nat.one_mul]⟩
theorem Qw (x q v:Nat) (h:q≤v):(x * 2 ^ q).testBit v=x.testBit (v - q):=by
 rw [Nat.testBit_mul_two_pow];simp [h]
theorem PO (z d q n v:Nat) (hd:d<2 ^ n):(z * 2 ^ (q+n)+d * 2 ^ q).testBit v=if v<q then false else if v<q+n then d.testBit (v - q) else (z * 2 ^ (q+n)).testBit v:=by
 have e:z * 2 ^ (q+n)+d * 2 ^ q=(2 ^ n * z+d) * 2 ^ q:=by rw [Nat.pow_add,Nat.add_mul];congr 1;rw [DL (2 ^ q),←Nat.mul_assoc,DL z]
 by_cases h:v<q
 ·rw [if_pos h,e,Nat.testBit_mul_two_pow];simp;omega
 ·rw [if_neg h,e,Qw _ _ _ (by omega),Nat.testBit_two_pow_mul_add _ hd];by_cases h2:v<q+n
  ·rw [if_pos h2,if_pos (by omega)]
  ·rw [if_neg h2,if_neg (by omega),Qw _ _ _ (by omega)];congr 1;omega
def kV (S:ST):Prop:=∀ v:Int,0≤v→v<S.n→S.pl v=v
theorem Hk.cof {k:Nat} {S:ST} {f:Int} (hw:WF S) (hh:Hk k S f) (u:Int):Hk k S (S.cof f u).1∧Hk k S (S.cof f u).2:=by
 unfold ST.cof;split
 ·rename_i t ht;obtain ⟨v,l,h⟩:=t;split
  ·exact hh.down hw ht
  ·exact ⟨hh,hh⟩
 ·exact ⟨hh,hh⟩
theorem RG {S:ST} (hw:WF S) (hid:kV S):∀ (k i:Nat) (f:Int) (a:Nat),S.ok f→(i:Int)≤S.lev f→Hk (i+k) S f→i+k≤S.n→S.tl k i f a=((KL k i).filter fun y=>S.den f (IC (y:Nat))).map fun y=>a+y
 | 0,i,f,a,hf,hl,hh,hn=>by
  have hc:f=0∨f=1:=by
   rcases hf with h | h | ⟨h2,⟨v,l,h⟩,ht⟩
   ·exact .inl h
   ·exact .inr h
   ·exfalso;have hv:=hh.var hw ht;obtain ⟨_,_,v0,v1,_⟩:=hw.node f v l h ht;rw [Cw hw ht] at hl;have:=hid v v0 v1;simp only at hl;omega
  rcases hc with rfl | rfl
  ·simp [ST.tl,KL,CI]
  ·simp [ST.tl,KL,Dq]
 | k+1,i,f,a,hf,hl,hh,hn=>by
  have hi:(i:Int)<S.n:=by omega
  have hpi:=hid i (by omega) hi;obtain ⟨ok0,ok1,l0,l1,_,_,hden⟩:=MK hw hf (u:=i) (by omega) hi (by rw [hpi];exact hl);rw [hpi] at l0 l1;obtain ⟨h0,h1⟩:=hh.cof hw (i:Int);have e0:=RG hw hid k (i+1) (S.cof f i).1 a ok0 (by push_cast;omega) (by rw [show i+1+k=i+(k+1) from by omega];exact h0) (by omega);have e1:=RG hw hid k (i+1) (S.cof f i).2 (a+2 ^ i) ok1 (by push_cast;omega) (by rw [show i+1+k=i+(k+1) from by omega];exact h1) (by omega);by_cases hf0:f=0
  ·subst hf0;simp [ST.tl,CI]
  ·simp only [ST.tl,hf0,if_false];rw [e0,e1];simp only [KL,List.filter_append,Am,List.filter_map,CZ];congr 1
   ·congr 1
    refine List.filter_congr fun y hy=>?_;obtain ⟨z,_,rfl⟩:=Iv hy;have hb:IC ((z * 2 ^ (i+1):Nat):Int) (i:Int)=false:=by
     show KJ _ _=_;rw [PQ,Nat.testBit_mul_two_pow];simp;omega
    rw [hden,hb];rfl
   ·have e:(fun y=>a+2 ^ i+y)=(fun y=>a+y) ∘ fun y=>y+2 ^ i:=by funext y;simp;omega
    rw [e];congr 1
    refine List.filter_congr fun y hy=>?_;obtain ⟨z,_,rfl⟩:=Iv hy;have hv:∀ v:Nat,KJ ((z * 2 ^ (i+1)+2 ^ i:Nat):Int) (v:Int)=if v<i then false else if v<i+1 then (1:Nat).testBit (v - i) else (z * 2 ^ (i+1)).testBit v:=fun v=>by
     have:=PO z 1 i 1 v (by decide);rw [Nat.one_mul] at this;rw [PQ,this]
    simp only [Function.comp_apply];have hb:IC ((z * 2 ^ (i+1)+2 ^ i:Nat):Int) (i:Int)=true:=by
     show KJ _ _=_;rw [hv];simp
    rw [hden,hb,if_pos rfl];refine Qr hw ok1 _ _ fun v v0 v1 hlv=>?_;obtain ⟨j,rfl⟩:=Bm v0;rw [hid _ v0 v1] at hlv;show KJ _ _=KJ _ _;rw [hv,PQ,if_neg (by omega),if_neg (by omega)]
def F7 (σ:Int→Bool) (p:Nat):Nat:=4 * (σ (3 * p:Nat)).toNat+2 * (σ (3 * p+1:Nat)).toNat+(σ (3 * p+2:Nat)).toNat
def ED (σ:Int→Bool):Nat→Nat→List Nat
 | _,0=>[]
 | p,c+1=>F7 σ p :: ED σ (p+1) c
def DP:Nat→List (List Nat)
 | 0=>[[]]
 | c+1=>(List.range 8).flatMap fun d=>(DP c).map (d :: ·)
theorem I4 {σ τ:Int→Bool}:∀ (c p:Nat),(∀ v:Nat,3 * p≤v→v<3 * (p+c)→σ v=τ v)→ED σ p c=ED τ p c
 | 0,_,_=>rfl
 | c+1,p,h=>by
  simp only [ED,F7];rw [h (3 * p) (by omega) (by omega),h (3 * p+1) (by omega) (by omega),h (3 * p+2) (by omega) (by omega),I4 c (p+1) fun v h1 h2=>h v (by omega) (by omega)]
theorem Q3:∀ (c p:Nat),(KL (3 * c) (3 * p)).map (fun y=>ED (IC (y:Nat)) p c)=DP c
 | 0,p=>by simp [KL,ED,DP]
 | c+1,p=>by
  have ih:=Q3 c (p+1);have e:3 * (c+1)=3 * c+1+1+1:=by omega
  have e3:3 * p+1+1+1=3 * (p+1):=by omega
  have key:∀ (d r:Nat),r<8→d=4 * (r.testBit 0).toNat+2 * (r.testBit 1).toNat+(r.testBit 2).toNat→∀ (g:Nat→Nat),(∀ y,g y=y+r * 2 ^ (3 * p))→(KL (3 * c) (3 * (p+1))).map ((fun y=>ED (IC (y:Nat)) p (c+1)) ∘ g)=(DP c).map (d :: ·):=by
   intro d r hr hd g hg;rw [←ih,CZ];refine Bn fun y hy=>?_;obtain ⟨z,_,rfl⟩:=Iv hy;have hv:∀ v:Nat,IC ((g (z * 2 ^ (3 * (p+1))):Nat):Int) (v:Int)=if v<3 * p then false else if v<3 * p+3 then r.testBit (v - 3 * p) else IC ((z * 2 ^ (3 * (p+1)):Nat):Int) (v:Int):=fun v=>by
    show KJ _ _=if _ then _ else if _ then _ else KJ _ _;rw [PQ,PQ,hg,show 3 * (p+1)=3 * p+3 from by omega];exact PO z r (3 * p) 3 v (by omega)
   simp only [Function.comp_apply,ED];congr 1
   ·unfold F7;rw [hv,hv,hv,hd];simp [show ¬ 3 * p+1<3 * p by omega,show ¬ 3 * p+2<3 * p by omega,show 3 * p+1 - 3 * p=1 by omega,show 3 * p+2 - 3 * p=2 by omega]
   ·refine I4 c (p+1) fun v h1 h2=>?_;rw [hv,if_neg (by omega),if_neg (by omega)]
  rw [e];simp only [KL,e3,Am,CZ,Ab];have hp1:2 ^ (3 * p+1)=2 * 2 ^ (3 * p):=by rw [CX,DL]
  have hp2:2 ^ (3 * p+1+1)=4 * 2 ^ (3 * p):=by rw [CX,CX];omega
  have hL:DP (c+1)=(DP c).map (0 :: ·)++((DP c).map (1 :: ·)++((DP c).map (2 :: ·)++((DP c).map (3 :: ·)++((DP c).map (4 :: ·)++((DP c).map (5 :: ·)++((DP c).map (6 :: ·)++(DP c).map (7 :: ·))))))):=by
   simp [DP,List.range_succ]
  rw [hL];have k0:=key 0 0 (by omega) (by decide) id (fun y=>by simp);rw [Function.comp_id] at k0;rw [k0];have K:=fun (d r:Nat) (h1:r<8) (h2) (g:Nat→Nat) (hg)=>key d r h1 h2 g hg;congr 1
  rw [K 1 4 (by omega) (by decide) _ (fun y=>by rw [hp2])];congr 1
  rw [K 2 2 (by omega) (by decide) _ (fun y=>by rw [hp1])];congr 1
  rw [show ((fun y=>ED (IC ((y:Nat):Int)) p (c+1)) ∘ (fun y=>y+2 ^ (3 * p+1)) ∘ fun y=>y+2 ^ (3 * p+1+1))=(fun y=>ED (IC ((y:Nat):Int)) p (c+1)) ∘ fun y=>y+6 * 2 ^ (3 * p) from by funext y;simp only [Function.comp_apply];rw [hp1,hp2];congr 3;omega];rw [K 3 6 (by omega) (by decide) _ (fun y=>rfl)];congr 1
  rw [K 4 1 (by omega) (by decide) _ (fun y=>by omega)];congr 1
  rw [show ((fun y=>ED (IC ((y:Nat):Int)) p (c+1)) ∘ (fun y=>y+2 ^ (3 * p)) ∘ fun y=>y+2 ^ (3 * p+1+1))=(fun y=>ED (IC ((y:Nat):Int)) p (c+1)) ∘ fun y=>y+5 * 2 ^ (3 * p) from by funext y;simp only [Function.comp_apply];rw [hp2];congr 3;omega];rw [K 5 5 (by omega) (by decide) _ (fun y=>rfl)];congr 1
  rw [show ((fun y=>ED (IC ((y:Nat):Int)) p (c+1)) ∘ (fun y=>y+2 ^ (3 * p)) ∘ fun y=>y+2 ^ (3 * p+1))=(fun y=>ED (IC ((y:Nat):Int)) p (c+1)) ∘ fun y=>y+3 * 2 ^ (3 * p) from by funext y;simp only [Function.comp_apply];rw [hp1];congr 3;omega];rw [K 6 3 (by omega) (by decide) _ (fun y=>rfl)];congr 1
  rw [show ((fun y=>ED (IC ((y:Nat):Int)) p (c+1)) ∘ (fun y=>y+2 ^ (3 * p)) ∘ (fun y=>y+2 ^ (3 * p+1)) ∘ fun y=>y+2 ^ (3 * p+1+1))=(fun y=>ED (IC ((y:Nat):Int)) p (c+1)) ∘ fun y=>y+7 * 2 ^ (3 * p) from by funext y;simp only [Function.comp_apply];rw [hp1,hp2];congr 3;omega];rw [K 7 7 (by omega) (by decide) _ (fun y=>rfl)]
end
section
open Go.RowKit Go.Shelf
attribute [local go_sem] Oper.semAt_some
theorem I1 {m m':Nat} {l:Nat} {args:Array Value} {W:World} {R:Ending→World→Prop} (h:YieldAt Fence.wide m prog l args W R):YieldAt Fence.wide m' prog l args W R:=
 let ⟨fn,tmps,assign,body,h1,h2,h3⟩:=h
 ⟨fn,tmps,assign,body,h1,h2,fun c cs _=>h3 c cs (room_wide _)⟩
theorem Ru {a i:Nat} (h:a<2 ^ i) (hi:i<12):bits BinOp.or IntKind.i64 (a:Int) ((2 ^ i:Nat):Int)=((a+2 ^ i:Nat):Int):=by
 have hp:2 ^ i<2 ^ 12:=C5 (by decide) hi;have e2:=(bits_nat .i64 62 (by decide) (fun n a b=>by rw [IntKind.wrap_i64];omega) a (2 ^ i) (by omega) (by omega)).2;rw [e2];have:=Nat.two_pow_add_eq_or_of_lt h 1;rw [Nat.mul_one] at this;rw [Nat.or_comm,←this,Nat.add_comm]
def eA (x:Nat):Array Value:=#[.int .i64 (x:Int)]
theorem KZ (W:World) (p v y:Value) (a:Int):Calls prog 154 #[p,.int .i64 0,.int .i64 a,v,y] W fun e W'=>e=.returned (.bool true)∧W' = W:=by
 go_in
 go_wp2
 go_ret
 exact ⟨rfl,rfl⟩
theorem TQ (n:Nat) (W:World) (p:Value) (f:Int) (hf:(f == 0)=false) (a l c:Nat) (s:Option Addr) {R:Ending→World→Prop} (hY:∀ m,YieldAt Fence.wide m prog l (eA a) W fun e W'=>∃ b,e=.returned (.bool b)∧R e W') :
  CallsIn Fence.wide n prog 154 #[p,.int .i64 f,.int .i64 (a:Int),.slice s 0 c,.func (.yield l) #[] #[]] W R:=by
 refine callsIn_of_wp func154 rfl trivial ?_ rfl;simp only [ntmps154,Bw,AU,Ao,Nat.reduceAdd,Nat.reduceSub,B0,Bz,CW,Bo,BM,A8];obtain ⟨fn,tmps,assign,body,hy,hR⟩:=hY (n - 1);simp only [eA] at hy;gi_wp2_with fail
 refine ⟨fun h=>(nomatch h),?_⟩;refine hR.mono ?_;rintro e W3 ⟨b,rfl,hr⟩;gi_wp2_with fail
 exact hr
def VE (B:SB) (S:ST) (l:Nat) (J:List Nat→World→Prop) (T L:List Nat) (z k:Nat):Prop:=
 ∀ (i:Nat) (f:Int) (a c:Nat) (pre:List Nat) (W:World),i+k≤S.n→S.n≤12→k+3≤c→a<2 ^ i→S.ok f→(i:Int)≤S.lev f→(pre++S.tl k i f a) <+: L→Aj W B S→z≤W.heap.size→J pre W →
  Calls prog 154 #[.pointer (some ⟨B.b,0,none⟩),.int .i64 f,.int .i64 (a:Int),.slice (some ⟨B.bo,i,none⟩) k c,.func (.yield l) #[] #[]] W fun e W'=>e=.returned (.bool true)∧J (pre++S.tl k i f a) W'∧AA (l :: T) W W'
theorem bC {i:Nat} (hi:i<12):IntKind.i64.wrap (2 ^ i)=((2 ^ i:Nat):Int):=by
 have hp:2 ^ i<2 ^ 12:=C5 (by decide) hi;have e:((2 ^ i:Nat):Int)=(2:Int) ^ i:=by push_cast;rfl
 rw [←e];generalize 2 ^ i=m at hp ⊢;rw [IntKind.wrap_i64];omega
theorem TX (b i k c:Nat) (hc:c≠1) (w:World):(Instr.slice 40 (.slice (some ⟨b,i,none⟩) (k+1) c) (some (.int .i64 1)) none none).run prog w=.ok (.slice (some ⟨b,i+1,none⟩) k (c - 1)) w:=by
 rw [run_slice_l (P:=prog) w 40 _ _ _ (by kernel_rfl) .i64 1 (by omega) (by push_cast;omega)];simp [go_sem,sliced,hc,Addr.add]
theorem lD {a i:Nat} (h:a<2 ^ i):a<2 ^ (i+1)∧a+2 ^ i<2 ^ (i+1):=by
 rw [CX];generalize 2 ^ i=q at *;omega
theorem YS {B:SB} {S:ST} (hw:WF S) (hid:kV S) (ho:∀ i:Nat,i<S.n→S.order[i]?=some (i:Int)) {l:Nat} {J:List Nat→World→Prop} {T L:List Nat} {z:Nat} (hJ:Hid (∀ pre W1 W2,J pre W1→Go.RowKit.Below z W1 W2→J pre W2)) (hT:∀ i∈B.own,i∉l :: T) {k:Nat} (ih:Hid (VE B S l J T L z k))
  (i:Nat) (f:Int) (a c:Nat) (pre:List Nat) (W:World) (hn:i+(k+1)≤S.n) (n12:S.n≤12) (hc:k+1+3≤c) (ha:a<2 ^ i) (hf:S.ok f) (hf0:(f == 0)=false) (hl:(i:Int)≤S.lev f) (hpre:Hid ((pre++(S.tl k (i+1) (S.cof f i).1 a++S.tl k (i+1) (S.cof f i).2 (a+2 ^ i))) <+: L)) (hS:Aj W B S) (hz:z≤W.heap.size) (h0:J pre W) :
  Calls prog 154 #[.pointer (some ⟨B.b,0,none⟩),.int .i64 f,.int .i64 (a:Int),.slice (some ⟨B.bo,i,none⟩) (k+1) c,.func (.yield l) #[] #[]] W fun e W'=>e=.returned (.bool true)∧J (pre++(S.tl k (i+1) (S.cof f i).1 a++S.tl k (i+1) (S.cof f i).2 (a+2 ^ i))) W'∧AA (l :: T) W W':=by
 have hi12:i<12:=by omega
 have hi:(i:Int)<S.n:=by omega
 have hpi:=hid i (by omega) hi;obtain ⟨ok0,ok1,l0,l1,_,_,_⟩:=MK hw hf (u:=i) (by omega) hi (by rw [hpi];exact hl);rw [hpi] at l0 l1;have hc0:=hS.order.cell (ho i (by omega));have hsp:=AD (Jw hS hw f i hf);have hor:=Ru ha hi12;have hpw:=bC hi12;have Ha:=AD (lD ha);clear ha;generalize hA:2 ^ i=A at hor hpw Ha hpre ⊢;generalize a+A=a2 at hor Ha hpre ⊢;generalize hf0':(S.cof f i).1=f0 at *;generalize hf1':(S.cof f i).2=f1 at *;go_in
 go_wp2_with fail
 refine hsp.out.mono ?_;rintro e W1 ⟨rfl,k1⟩;have hS1:=hS.keeps k1;have hS1d:=hS1.keeps (AA.drew [] W1);have hz1:z≤W1.heap.size:=At hz k1.size;have h1:J pre W1.drew:=hJ.out _ _ _ h0 ((k1.trans (AA.drew [] W1)).below hz (by simp));have hpre1:Hid ((pre++S.tl k (i+1) f0 a) <+: L):=((List.prefix_append _ _).trans (by rw [Ab];exact hpre.out));have hc1:=AD (ih.out (i+1) f0 a (c - 1) pre W1.drew (by omega) n12 (by omega) Ha.out.1 ok0 (by push_cast;omega) hpre1.out hS1d hz1 h1);have hc01:=hS1.order.cell (ho i (by omega));have Hnx:=AD (fun (W2:World) (k2:AA (l :: T) W1.drew W2) (h2:J (pre++S.tl k (i+1) f0 a) W2)=>ih.out (i+1) f1 a2 (c - 1) (pre++S.tl k (i+1) f0 a) W2 (by omega) n12 (by omega) Ha.out.2 ok1 (by push_cast;omega) (by rw [Ab];exact hpre.out) (hS1d.keeps k2 hT) (At hz1 k2.size) h2);have hbo:B.bo∉l :: T:=hT _ (by simp [SB.own]);have hcd:=hS1d.order.cell (ho i (by omega));have Hcell:=AD (fun (W2:World) (k2:AA (l :: T) W1.drew W2)=>(hS1d.order.of_heap (k2.block _ hS1d.order.lt hbo)).cell (ho i (by omega)));clear hsp hpre ih;have hsl:=TX B.bo i k c (by omega);go_wp2_with fail
 go_region_held3 (fun w'=>w'.cell? ⟨B.bo,i,none⟩=some (.int .i64 (i:Int))) (first | exact hcd | exact hc2 | exact hc3)
  (first
  | (go_at_call_of 154 (Value.int IntKind.i64 f0)
     refine hc1.out.mono ?_;rintro e W2 ⟨rfl,h2,k2⟩
     have hc2:=Hcell.out _ k2)
  | (go_at_call_of 154 (Value.int IntKind.i64 f1)
     refine (Hnx.out _ k2 h2).mono ?_;rintro e W3 ⟨rfl,h3,k3⟩
     have hc3:=Hcell.out _ (k2.trans k3)))
 all_goals
  go_wp2_with fail
  go_ret
  exact ⟨rfl,by rw [←Ab];exact h3,(((k1.trans (AA.drew [] W1)).mono (by simp)).trans k2).trans k3⟩
theorem YT {B:SB} {S:ST} (hw:WF S) (hid:kV S) (ho:∀ i:Nat,i<S.n→S.order[i]?=some (i:Int)) {l:Nat} {J:List Nat→World→Prop} {T L:List Nat} {z:Nat} (hJ:∀ pre W1 W2,J pre W1→Go.RowKit.Below z W1 W2→J pre W2) (hT:∀ i∈B.own,i∉l :: T)
  (hY:∀ m pre x W1,J pre W1→(pre++[x]) <+: L→YieldAt Fence.wide m prog l (eA x) W1 fun e W'=>e=.returned (.bool true)∧J (pre++[x]) W'∧AA (l :: T) W1 W'):∀ k,VE B S l J T L z k:=by
 intro k;induction k with
 | zero=>
  intro i f a c pre W hn n12 hc ha hf hl hpre hS hz h0;by_cases hf0:f=0
  ·subst hf0;refine (KZ W _ _ _ _).mono ?_;rintro e W' ⟨rfl,rfl⟩;exact ⟨rfl,by simpa [ST.tl] using h0,AA.refl _ _⟩
  ·simp only [ST.tl,hf0,if_false] at hpre ⊢;refine callsIn_wide.1 (TQ 0 W _ f (by simpa using hf0) a l c _ fun m=>?_);exact (hY m pre a W h0 hpre).mono fun e W' h=>⟨true,h.1,h⟩
 | succ k ih=>
  intro i f a c pre W hn n12 hc ha hf hl hpre hS hz h0;by_cases hf0:f=0
  ·subst hf0;refine (KZ W _ _ _ _).mono ?_;rintro e W' ⟨rfl,rfl⟩;exact ⟨rfl,by simpa [ST.tl] using h0,AA.refl _ _⟩
  ·simp only [ST.tl,hf0,if_false] at hpre ⊢;exact YS hw hid ho (AD hJ) hT (AD ih) i f a c pre W hn n12 hc ha hf (by simpa using hf0) hl hpre hS hz h0
theorem M9 (w:World) (p:Addr) (f v:Int) :
  Calls prog 79 #[.pointer (some p),.int .i64 f,.int .i64 v] w fun e w'=>e=.returned (.func (.func 153) #[] #[.pointer (some ⟨w.heap.size,0,none⟩),.pointer (some ⟨w.heap.size+1,0,none⟩),.pointer (some ⟨w.heap.size+1+1,0,none⟩)]) ∧
   w' = ((w.alloc (.cells #[.pointer (some p)] 135)).alloc (.cells #[.int .i64 f] 3)).alloc (.cells #[.int .i64 v] 3):=by
 go_in
 go_wp2
 go_ret
 exact ⟨rfl,rfl⟩
end
end Go.Proofs.YtgjomknpjigkhaaGreatDoor
