import Derived.Test.YtgjomknpjigkhaaGreatDoorY03
import Derived.Deep.RegionHeld3
namespace Go.Proofs.YtgjomknpjigkhaaGreatDoor
open Go.Proofs.Tryz
set_option maxRecDepth 100000
set_option maxHeartbeats 4000000
section
open Go.RowKit
def fc (cj:Int):Nat→Int
 | 0=>0
 | k+1=>2 * fc cj k+cj
theorem I5 {cj:Int} (h:0≤cj):∀ k,0≤fc cj k
 | 0=>by simp [fc]
 | k+1=>by have:=I5 h k;simp only [fc];omega
structure nR (R:ST→Int→Int→Prop) (S:ST) (D:List (Int×Int)):Prop where
 rel:∀ f r,DH D f=some r→S.ok f∧R S f r
 zero:(DH D 0).isSome=true
 one:(DH D 1).isSome=true
structure Mf (I:ST→Prop) (R:ST→Int→Int→Prop) (S S':ST) (D':List (Int×Int)) (f r:Int) (c:Int):Prop where
 ext:EH S S'
 wf:WF S'
 known:Jw S'
 dok:nR R S' D'
 rel:R S' f r
 next:S'.next≤S.next+c
 inv:I S'
def G4 (B:SB) (rd:Nat) (C:World→Prop) (I:ST→Prop) (R:ST→Int→Int→Prop) (cj:Int) (w:World) (S:ST) (f:Int) (k:Nat) (e:Ending) (w':World):Prop:=
 ∃ r S' D',e=.returned (.int .i64 r)∧Al w' B S'∧Bo eI eI w' rd D'∧AA (rd :: B.own) w w'∧C w'∧Mf I R S S' D' f r (fc cj k)
def Me (B:SB) (rd:Nat) (cl:Value) (C:World→Prop) (I:ST→Prop) (R:ST→Int→Int→Prop) (cj:Int) (k:Nat):Prop:=
 ∀ (w:World) (S:ST) (D:List (Int×Int)) (f:Int),Al w B S→WF S→Jw S→I S→C w→Bo eI eI w rd D→nR R S D→S.ok f→(S.n:Int) - S.lev f≤k→S.next+fc cj k<Fq →
  Calls prog 210 #[.pointer (some ⟨B.b,0,none⟩),.int .i64 f,.map (some rd),cl] w (G4 B rd C I R cj w S f k)
structure Mg (B:SB) (rd:Nat) (fid:FuncId) (args:Int→Int→Int→Array Value) (C:World→Prop) (I:ST→Prop) (R:ST→Int→Int→Prop) (cj:Int):Prop where
 sep:rd∉B.own
 keepC:∀ w w',C w→AA (rd :: B.own) w w'→C w'
 mono:∀ S S' f r,S.ok f→EH S S'→WF S→WF S'→I S→I S'→R S f r→R S' f r
 cost:0≤cj
 join:∀ w S f v l h rl rh,Al w B S→WF S→Jw S→I S→C w→DH S.N f=some (v,l,h)→R S l rl→R S h rh→S.next+cj<Fq →
  Calls prog fid (args v rl rh) w fun e w'=>∃ r S',e=.returned (.int .i64 r)∧Al w' B S'∧AA B.own w w'∧EH S S'∧WF S'∧Jw S'∧I S'∧R S' f r∧S'.next≤S.next+cj
theorem Im {I:ST→Prop} {R:ST→Int→Int→Prop} (mono:∀ S S' f r,S.ok f→EH S S'→WF S→WF S'→I S→I S'→R S f r→R S' f r) {S S1 S2 S3:ST} {D1 D2:List (Int×Int)} {f v l h r0 r1 r cj:Int} {k:Nat}
  (hw:WF S) (ht:DH S.N f=some (v,l,h)) (p0:Mf I R S S1 D1 l r0 (fc cj k)) (p1:Mf I R S1 S2 D2 h r1 (fc cj k)) (x:EH S2 S3) (w3:WF S3) (k3:Jw S3) (i3:I S3) (rel:R S3 f r) (n3:S3.next≤S2.next+cj) :
  Mf I R S S3 (put D2 f r) f r (fc cj (k+1)):=by
 have x3:=(p0.ext.trans p1.ext).trans x;refine ⟨x3,w3,k3,⟨?_,?_,?_⟩,rel,?_,i3⟩
 ·intro g q hg;rw [GZ] at hg;by_cases e:g=f
  ·subst e;simp only [if_true,BH] at hg;subst hg;exact ⟨x3.ok (.inr (.inr ⟨(hw.node _ _ _ _ ht).1,_,ht⟩)),rel⟩
  ·simp only [e,if_false] at hg;obtain ⟨a,b⟩:=p1.dok.rel g q hg;exact ⟨x.ok a,mono _ _ _ _ a x p1.wf w3 p1.inv i3 b⟩
 ·rw [GZ];split
  ·rfl
  ·exact p1.dok.zero
 ·rw [GZ];split
  ·rfl
  ·exact p1.dok.one
 ·have:=p0.next;have:=p1.next;simp only [fc];omega
theorem Ff {w:World} {z:Nat} {x y u:Value} (h:AM w z #[x,y,u]):w.cell? ⟨z,0,none⟩=some x∧w.cell? ⟨z,1,none⟩=some y∧w.cell? ⟨z,2,none⟩=some u:=
 ⟨h.cell 0,h.cell 1,h.cell 2⟩
theorem Wq {w:World} {rd:Nat} {D:List (Int×Int)} (p cl:Value) (f r:Int) (hD:Bo eI eI w rd D) (hg:DH D f=some r) :
  Calls prog 210 #[p,.int .i64 f,.map (some rd),cl] w fun e w'=>e=.returned (.int .i64 r)∧w' = w:=by
 have hlk:=ET (P:=prog) underlying146 I1 (z:=.int .i64 0) LH hD f true;simp only [hg,A4,BS,eI,CJ,if_true] at hlk;go_in
 go_wp2
 go_ret
 exact ⟨rfl,rfl⟩
theorem G3 {B:SB} {rd:Nat} {cl:Value} {C:World→Prop} {I:ST→Prop} {R:ST→Int→Int→Prop} {cj:Int} (hc:0≤cj) (k:Nat) {w:World} {S:ST} {D:List (Int×Int)} {f r:Int} (hS:Al w B S) (hw:WF S) (hk:Jw S) (hi:I S) (hC:C w) (hD:Bo eI eI w rd D) (hd:nR R S D) (hg:DH D f=some r) :
  Calls prog 210 #[.pointer (some ⟨B.b,0,none⟩),.int .i64 f,.map (some rd),cl] w (G4 B rd C I R cj w S f k):=
 (Wq _ cl f r hD hg).mono fun e w' ⟨he,hw'⟩=>by
  subst hw';exact ⟨r,S,D,he,hS,hD,AA.refl _ _,hC,EH.refl S,hw,hk,hd,(hd.rel f r hg).2,by have:=I5 hc k;omega,hi⟩
theorem U4 {B:SB} {rd:Nat} {C:World→Prop} {I:ST→Prop} {R:ST→Int→Int→Prop} {cj:Int} (E:Mg B rd 235 (fun v rl rh=>#[.int .i64 v,.int .i64 rl,.int .i64 rh]) C I R cj) {k:Nat}
  (ih:Hid (Me B rd (.func (.func 235) #[] #[]) C I R cj k)) {w:World} {S:ST} {D:List (Int×Int)} (f v l h:Int) (hS0:Al w B S) (hw:WF S) (hk:Jw S) (hi:I S) (hC:C w) (hD0:Bo eI eI w rd D) (hd:nR R S D) (hno:DH D f=none) (ht:DH S.N f=some (v,l,h))
  (hlev:(S.n:Int) - S.lev f≤(k+1:Nat)) (hlim:S.next+fc cj (k+1)<Fq) :
  Calls prog 210 #[.pointer (some ⟨B.b,0,none⟩),.int .i64 f,.map (some rd),.func (.func 235) #[] #[]] w (G4 B rd C I R cj w S f (k+1)):=by
 have hn:=hw.node f v l h ht;have hsep:=E.sep;have hl:=look71' hS0 ht;have hlk:=ET (P:=prog) underlying146 I1 (z:=.int .i64 0) LH hD0 f true;simp only [hno,Ce,CA,eI,B6,if_true] at hlk;have c2:=hS0.head.cell 2;simp at c2;have Hlim:=AD hlim;have Hlev:=AD hlev;have Ht:=AD ht;have Hn:=AD hn;clear hlim hlev ht hn hno;go_in
 go_wp2
 have hN:=AM.new w #[.int .i64 v,.int .i64 l,.int .i64 h] 228;have hS:=hS0.alloc (.cells #[.int .i64 v,.int .i64 l,.int .i64 h] 228);have hK:=AA.alloc (rd :: B.own) w (.cells #[.int .i64 v,.int .i64 l,.int .i64 h] 228);have hD:Bo eI eI _ rd D:=hD0.of_heap (Go.RowKit.Below.heap_alloc w (.cells #[.int .i64 v,.int .i64 l,.int .i64 h] 228) rd hD0.lt);have hC1:=E.keepC _ _ hC hK;have hne:w.heap.size∉rd :: B.own:=fun x=>by
  rcases AJ.1 x with e | x
  ·exact absurd hD0.lt (by rw [e];omega)
  ·exact Nat.lt_irrefl _ (hS0.lt _ x)
 clear hl hlk c2;generalize w.alloc (.cells #[.int .i64 v,.int .i64 l,.int .i64 h] 228)=W at hN hS hK hD hC1 ⊢;generalize w.heap.size=z at hN hne ⊢;have hC2:C W.drew:=E.keepC _ _ hC1 (AA.drew _ _);have hD2:Bo eI eI W.drew rd D:=hD.of_heap rfl;have hN2:AM W.drew z _:=hN.of_heap rfl;have hK2:=hK.trans (AA.drew (rd :: B.own) W);have hS2:=hS.drew;have g0:=Ff hN
 go_region_held3 (fun w'=>w'.cell? ⟨z,0,none⟩=some (.int .i64 v)∧w'.cell? ⟨z,1,none⟩=some (.int .i64 l)∧w'.cell? ⟨z,2,none⟩=some (.int .i64 h)) (first | exact Ff hN2 | exact Ff hN3 | exact Ff hN4 | exact Ff hN5)
  (first
   | (go_at_call_of 210 (Value.int IntKind.i64 l)
      refine (ih.out W.drew S D l hS2 hw hk hi hC2 hD2 hd Hn.out.2.2.2.2.2.1 ?_ ?_).mono ?_
      ·have:=Hlev.out;have:=Hn.out.2.2.2.2.2.2.2.1;rw [Cf hw Ht.out] at *;dsimp only at *;omega
      ·have:=Hlim.out;simp only [fc] at this;have:=I5 E.cost k;have:=E.cost;omega
      rintro e W3 ⟨r0,S1,D1,rfl,hS3,hD3,k3,hC3,p0⟩;have hN3:=hN2.keeps k3 hne
      have hK3:=hK2.trans k3)
   | (go_at_call_of 210 (Value.int IntKind.i64 h)
      refine (ih.out W3 S1 D1 h hS3 p0.wf p0.known p0.inv hC3 hD3 p0.dok (p0.ext.ok Hn.out.2.2.2.2.2.2.1) ?_ ?_).mono ?_
      ·rw [p0.ext.lev Hn.out.2.2.2.2.2.2.1,p0.ext.n];have:=Hlev.out;have:=Hn.out.2.2.2.2.2.2.2.2;rw [Cf hw Ht.out] at *;dsimp only at *;omega
      ·have:=Hlim.out;simp only [fc] at this;have:=p0.next;have:=E.cost;omega
      rintro e W4 ⟨r1,S2,D2,rfl,hS4,hD4,k4,hC4,p1⟩;have hN4:=hN3.keeps k4 hne
      have hK4:=hK3.trans k4)
   | (go_at_call 235
      refine (E.join W4 S2 f v l h r0 r1 hS4 p1.wf p1.known p1.inv hC4 (p1.ext.node _ _ (p0.ext.node _ _ Ht.out)) (E.mono _ _ _ _ (p0.ext.ok Hn.out.2.2.2.2.2.1) p1.ext p0.wf p1.wf p0.inv p1.inv p0.rel) p1.rel ?_).mono ?_
      ·have:=Hlim.out;simp only [fc] at this;have:=p0.next;have:=p1.next;omega
      rintro e W5 ⟨r,S3,rfl,hS5,k5,x5,w5,kk5,i5,rel5,n5⟩;have k5':AA (rd :: B.own) W4 W5:=k5.mono (fun i hi=>AO _ hi);have hN5:=hN4.keeps k5' hne;have hK5:=hK4.trans k5';have hC5:=E.keepC _ _ hC4 k5'
      have hD5:Bo eI eI W5 rd D2:=hD4.of_heap (k5.block rd hD4.lt hsep)))
 all_goals
  obtain ⟨o,hrun,hmm⟩:=F6 (P:=prog) underlying146 I1 hD5 f r;simp only [eI] at hrun;go_wp2
  go_ret
  refine ⟨r,S3,put D2 f r,rfl,hS5.of_heap (fun i hi=>CU o (fun e=>hsep (e ▸ hi))),hmm,hK5.trans ((AA.blk _ _ _).mono (by simp)),E.keepC _ _ hC5 ((AA.blk _ _ _).mono (by simp)),?_⟩;exact Im E.mono hw Ht.out p0 p1 x5 w5 kk5 i5 rel5 n5
theorem jM {B:SB} {rd:Nat} {C:World→Prop} {I:ST→Prop} {R:ST→Int→Int→Prop} {cj:Int} (E:Mg B rd 235 (fun v rl rh=>#[.int .i64 v,.int .i64 rl,.int .i64 rh]) C I R cj):∀ k,Me B rd (.func (.func 235) #[] #[]) C I R cj k:=by
 intro k;induction k with
 | zero=>
  intro w S D f hS hw hk hi hC hD hd okf hl hlim;have fl:¬ 2≤f:=fun x=>by have:=(DJ hw okf).2 x;omega
  have hs:(DH D f).isSome=true:=by
   rcases okf with rfl | rfl | ⟨x,_⟩
   ·exact hd.zero
   ·exact hd.one
   ·exact absurd x fl
  obtain ⟨r,hr⟩:=Bl.1 hs;exact G3 E.cost 0 hS hw hk hi hC hD hd hr
 | succ k ih=>
  intro w S D f hS hw hk hi hC hD hd okf hl hlim;cases hg:DH D f with
  | some r=>exact G3 E.cost _ hS hw hk hi hC hD hd hg
  | none=>
   rcases okf with rfl | rfl | ⟨x,⟨v,l,h⟩,ht⟩
   ·have:=hd.zero;rw [hg] at this;cases this
   ·have:=hd.one;rw [hg] at this;cases this
   ·exact U4 E (AD ih) f v l h hS hw hk hi hC hD hd hg ht hl hlim
theorem U5 {B:SB} {rd:Nat} {C:World→Prop} {I:ST→Prop} {R:ST→Int→Int→Prop} {cj:Int} {p q:Nat} (E:Mg B rd 212 (fun v rl rh=>#[.int .i64 v,.int .i64 rl,.int .i64 rh,.pointer (some ⟨p,0,none⟩),.pointer (some ⟨q,0,none⟩)]) C I R cj) {k:Nat}
  (ih:Hid (Me B rd (.func (.func 212) #[] #[.pointer (some ⟨p,0,none⟩),.pointer (some ⟨q,0,none⟩)]) C I R cj k)) {w:World} {S:ST} {D:List (Int×Int)} (f v l h:Int) (hS0:Al w B S) (hw:WF S) (hk:Jw S) (hi:I S) (hC:C w) (hD0:Bo eI eI w rd D) (hd:nR R S D) (hno:DH D f=none) (ht:DH S.N f=some (v,l,h))
  (hlev:(S.n:Int) - S.lev f≤(k+1:Nat)) (hlim:S.next+fc cj (k+1)<Fq) :
  Calls prog 210 #[.pointer (some ⟨B.b,0,none⟩),.int .i64 f,.map (some rd),.func (.func 212) #[] #[.pointer (some ⟨p,0,none⟩),.pointer (some ⟨q,0,none⟩)]] w (G4 B rd C I R cj w S f (k+1)):=by
 have hn:=hw.node f v l h ht;have hsep:=E.sep;have hl:=look71' hS0 ht;have hlk:=ET (P:=prog) underlying146 I1 (z:=.int .i64 0) LH hD0 f true;simp only [hno,Ce,CA,eI,B6,if_true] at hlk;have c2:=hS0.head.cell 2;simp at c2;have Hlim:=AD hlim;have Hlev:=AD hlev;have Ht:=AD ht;have Hn:=AD hn;clear hlim hlev ht hn hno;go_in
 go_wp2
 have hN:=AM.new w #[.int .i64 v,.int .i64 l,.int .i64 h] 228;have hS:=hS0.alloc (.cells #[.int .i64 v,.int .i64 l,.int .i64 h] 228);have hK:=AA.alloc (rd :: B.own) w (.cells #[.int .i64 v,.int .i64 l,.int .i64 h] 228);have hD:Bo eI eI _ rd D:=hD0.of_heap (Go.RowKit.Below.heap_alloc w (.cells #[.int .i64 v,.int .i64 l,.int .i64 h] 228) rd hD0.lt);have hC1:=E.keepC _ _ hC hK;have hne:w.heap.size∉rd :: B.own:=fun x=>by
  rcases AJ.1 x with e | x
  ·exact absurd hD0.lt (by rw [e];omega)
  ·exact Nat.lt_irrefl _ (hS0.lt _ x)
 clear hl hlk c2;generalize w.alloc (.cells #[.int .i64 v,.int .i64 l,.int .i64 h] 228)=W at hN hS hK hD hC1 ⊢;generalize w.heap.size=z at hN hne ⊢;have hC2:C W.drew:=E.keepC _ _ hC1 (AA.drew _ _);have hD2:Bo eI eI W.drew rd D:=hD.of_heap rfl;have hN2:AM W.drew z _:=hN.of_heap rfl;have hK2:=hK.trans (AA.drew (rd :: B.own) W);have hS2:=hS.drew;have g0:=Ff hN
 go_region_held3 (fun w'=>w'.cell? ⟨z,0,none⟩=some (.int .i64 v)∧w'.cell? ⟨z,1,none⟩=some (.int .i64 l)∧w'.cell? ⟨z,2,none⟩=some (.int .i64 h)) (first | exact Ff hN2 | exact Ff hN3 | exact Ff hN4 | exact Ff hN5)
  (first
   | (go_at_call_of 210 (Value.int IntKind.i64 l)
      refine (ih.out W.drew S D l hS2 hw hk hi hC2 hD2 hd Hn.out.2.2.2.2.2.1 ?_ ?_).mono ?_
      ·have:=Hlev.out;have:=Hn.out.2.2.2.2.2.2.2.1;rw [Cf hw Ht.out] at *;dsimp only at *;omega
      ·have:=Hlim.out;simp only [fc] at this;have:=I5 E.cost k;have:=E.cost;omega
      rintro e W3 ⟨r0,S1,D1,rfl,hS3,hD3,k3,hC3,p0⟩;have hN3:=hN2.keeps k3 hne
      have hK3:=hK2.trans k3)
   | (go_at_call_of 210 (Value.int IntKind.i64 h)
      refine (ih.out W3 S1 D1 h hS3 p0.wf p0.known p0.inv hC3 hD3 p0.dok (p0.ext.ok Hn.out.2.2.2.2.2.2.1) ?_ ?_).mono ?_
      ·rw [p0.ext.lev Hn.out.2.2.2.2.2.2.1,p0.ext.n];have:=Hlev.out;have:=Hn.out.2.2.2.2.2.2.2.2;rw [Cf hw Ht.out] at *;dsimp only at *;omega
      ·have:=Hlim.out;simp only [fc] at this;have:=p0.next;have:=E.cost;omega
      rintro e W4 ⟨r1,S2,D2,rfl,hS4,hD4,k4,hC4,p1⟩;have hN4:=hN3.keeps k4 hne
      have hK4:=hK3.trans k4)
   | (go_at_call 212
      refine (E.join W4 S2 f v l h r0 r1 hS4 p1.wf p1.known p1.inv hC4 (p1.ext.node _ _ (p0.ext.node _ _ Ht.out)) (E.mono _ _ _ _ (p0.ext.ok Hn.out.2.2.2.2.2.1) p1.ext p0.wf p1.wf p0.inv p1.inv p0.rel) p1.rel ?_).mono ?_
      ·have:=Hlim.out;simp only [fc] at this;have:=p0.next;have:=p1.next;omega
      rintro e W5 ⟨r,S3,rfl,hS5,k5,x5,w5,kk5,i5,rel5,n5⟩;have k5':AA (rd :: B.own) W4 W5:=k5.mono (fun i hi=>AO _ hi);have hN5:=hN4.keeps k5' hne;have hK5:=hK4.trans k5';have hC5:=E.keepC _ _ hC4 k5'
      have hD5:Bo eI eI W5 rd D2:=hD4.of_heap (k5.block rd hD4.lt hsep)))
 all_goals
  obtain ⟨o,hrun,hmm⟩:=F6 (P:=prog) underlying146 I1 hD5 f r;simp only [eI] at hrun;go_wp2
  go_ret
  refine ⟨r,S3,put D2 f r,rfl,hS5.of_heap (fun i hi=>CU o (fun e=>hsep (e ▸ hi))),hmm,hK5.trans ((AA.blk _ _ _).mono (by simp)),E.keepC _ _ hC5 ((AA.blk _ _ _).mono (by simp)),?_⟩;exact Im E.mono hw Ht.out p0 p1 x5 w5 kk5 i5 rel5 n5
theorem Sd {B:SB} {rd:Nat} {C:World→Prop} {I:ST→Prop} {R:ST→Int→Int→Prop} {cj:Int} {p q:Nat} (E:Mg B rd 212 (fun v rl rh=>#[.int .i64 v,.int .i64 rl,.int .i64 rh,.pointer (some ⟨p,0,none⟩),.pointer (some ⟨q,0,none⟩)]) C I R cj):∀ k,Me B rd (.func (.func 212) #[] #[.pointer (some ⟨p,0,none⟩),.pointer (some ⟨q,0,none⟩)]) C I R cj k:=by
 intro k;induction k with
 | zero=>
  intro w S D f hS hw hk hi hC hD hd okf hl hlim;have fl:¬ 2≤f:=fun x=>by have:=(DJ hw okf).2 x;omega
  have hs:(DH D f).isSome=true:=by
   rcases okf with rfl | rfl | ⟨x,_⟩
   ·exact hd.zero
   ·exact hd.one
   ·exact absurd x fl
  obtain ⟨r,hr⟩:=Bl.1 hs;exact G3 E.cost 0 hS hw hk hi hC hD hd hr
 | succ k ih=>
  intro w S D f hS hw hk hi hC hD hd okf hl hlim;cases hg:DH D f with
  | some r=>exact G3 E.cost _ hS hw hk hi hC hD hd hg
  | none=>
   rcases okf with rfl | rfl | ⟨x,⟨v,l,h⟩,ht⟩
   ·have:=hd.zero;rw [hg] at this;cases this
   ·have:=hd.one;rw [hg] at this;cases this
   ·exact U5 E (AD ih) f v l h hS hw hk hi hC hD hd hg ht hl hlim
theorem TH (q:Int) (h0:0≤q) (h1:q<2 ^ 62):bits BinOp.and IntKind.i64 q 1=q % 2:=by
 have:=bits_mask .i64 62 (by decide) (fun n a b=>by rw [IntKind.wrap_i64];omega) 1 (by decide) q h0 h1;simpa using this
theorem PU {a:Int} (h0:0≤a) {b:Int} (h1:a<b) (n:Nat):0≤a / 2 ^ n∧a / 2 ^ n<b:=by
 have hp:(0:Int)<2 ^ n:=by exact_mod_cast Nat.two_pow_pos n
 refine ⟨Int.ediv_nonneg h0 (Int.le_of_lt hp),?_⟩;have:=Int.ediv_le_self (2 ^ n:Int) h0;omega
theorem Pf {a v:Int} (h0:0≤a) (h1:a<4096):(bits BinOp.and IntKind.i64 (a / 2 ^ v.toNat) 1 == 1)=J3 a v:=by
 have:=PU h0 h1 v.toNat;rw [TH _ this.1 (by omega)];rfl
theorem RH (W:World) (o o':Obj):blk (W.alloc o) W.heap.size o' = W.alloc o':=by
 unfold blk World.alloc;congr 1
 apply Array.ext_getElem?;intro i;by_cases h:i=W.heap.size
 ·subst h;simp
 ·have h2:¬ W.heap.size=i:=fun e=>h e.symm;rw [Ab,if_neg h2,Array.getElem?_push,Array.getElem?_push,if_neg h,if_neg h]
theorem M5 (W:World) (r:Nat) (hr:r=W.heap.size) (k v:Int):(Instr.mapUpdate 146 (.map (some r)) (.int .i64 k) (.int .i64 v)).run prog (W.alloc (.map #[] 0)) =
  .ok () (W.alloc (.map #[{ key:=.int .i64 k,val:=.int .i64 v,born:=0 }] 1)):=by
 subst hr;have h1:(W.alloc (.map #[] 0)).heap[W.heap.size]?=some (.map #[] 0):=(MapKept.heap_alloc W _).1;have hf:=Fe (ev:=eI) I1 k (W.alloc (.map #[] 0)) [] [] rfl;have hs:=MapKept.run_setObj_map (P:=prog) (.map #[{ key:=.int .i64 k,val:=.int .i64 v,born:=0 }] 1) h1;simp only [eI] at hf;unfold Instr.mapUpdate;simp only [Sem.run_bind,run_underlying underlying146,Result.andThen_ok,MapKept.run_getObj_map h1,TA false 9999,hf,spot];exact hs.trans (congrArg (Result.ok ()) (RH W _ _))
theorem Lq (W:World) (r:Nat) (hr:r=W.heap.size) (k v k2 v2:Int) (hk:k≠k2) :
  (Instr.mapUpdate 146 (.map (some r)) (.int .i64 k2) (.int .i64 v2)).run prog (W.alloc (.map #[{ key:=.int .i64 k,val:=.int .i64 v,born:=0 }] 1)) =
  .ok () (W.alloc (.map #[{ key:=.int .i64 k,val:=.int .i64 v,born:=0 },{ key:=.int .i64 k2,val:=.int .i64 v2,born:=1 }] 2)):=by
 subst hr;have h1:(W.alloc (.map #[{ key:=.int .i64 k,val:=.int .i64 v,born:=0 }] 1)).heap[W.heap.size]?=some (.map #[{ key:=.int .i64 k,val:=.int .i64 v,born:=0 }] 1):=(MapKept.heap_alloc W _).1;have hf:=Fe (ev:=eI) I1 k2 (W.alloc (.map #[{ key:=.int .i64 k,val:=.int .i64 v,born:=0 }] 1)) [{ key:=.int .i64 k,val:=.int .i64 v,born:=0 }] [(k,v)] rfl;have hs:=MapKept.run_setObj_map (P:=prog) (.map #[{ key:=.int .i64 k,val:=.int .i64 v,born:=0 },{ key:=.int .i64 k2,val:=.int .i64 v2,born:=1 }] 2) h1;simp only [eI,spot,hk,if_false] at hf;unfold Instr.mapUpdate;simp only [Sem.run_bind,run_underlying underlying146,Result.andThen_ok,MapKept.run_getObj_map h1,TA false 9999,hf];exact hs.trans (congrArg (Result.ok ()) (RH W _ _))
theorem dN (W:World) (k v k2 v2:Int) (hk:k≠k2):Bo eI eI (W.alloc (.map #[{ key:=.int .i64 k,val:=.int .i64 v,born:=0 },{ key:=.int .i64 k2,val:=.int .i64 v2,born:=1 }] 2)) W.heap.size [(k,v),(k2,v2)]:=
 ⟨_,_,(MapKept.heap_alloc W _).1,by simp [eI],by simp,by simp,by simp [hk]⟩
def ExC (B:SB) (p q:Nat) (X:Int) (w:World):Prop:=AM w p #[.int .i64 X]∧AM w q #[.pointer (some ⟨B.b,0,none⟩)]
structure lF (S S':ST) (R:ST→Int→Int→Prop) (f r c:Int):Prop where
 ext:EH S S'
 wf:WF S'
 known:Jw S'
 rel:R S' f r
 next:S'.next≤S.next+c
def VW (B:SB) (w:World) (S:ST) (R:ST→Int→Int→Prop) (f c:Int) (e:Ending) (w':World):Prop:=
 ∃ r S',e=.returned (.int .i64 r)∧Al w' B S'∧AA B.own w w'∧lF S S' R f r c
theorem jQ {B:SB} {w:World} {S:ST} {X:Int} {p q:Nat} (f v l h rl rh:Int) (hS:Al w B S) (hw:WF S) (hk:Jw S) (hC:ExC B p q X w) (n8:S.n≤12) (x0:0≤X) (x1:X<4096) (ht:DH S.N f=some (v,l,h)) (al:QA X S l rl) (ah:QA X S h rh) (hlim:S.next+(Gp S.n+1)<Fq) :
  Calls prog 212 #[.int .i64 v,.int .i64 rl,.int .i64 rh,.pointer (some ⟨p,0,none⟩),.pointer (some ⟨q,0,none⟩)] w fun e w'=>∃ r S',e=.returned (.int .i64 r)∧Al w' B S'∧AA B.own w w'∧EH S S'∧WF S'∧Jw S'∧QA X S' f r∧S'.next≤S.next+(Gp S.n+1):=by
 have hc0:=Ee S.n;obtain ⟨x1',x2,v0,v1,x5,okl,okh,pll,plh⟩:=hw.node f v l h ht;have v8:v<12:=by omega
 have h5:=hC.1.cell 0;have h3:=hC.2.cell 0;simp at h5 h3;have hb:=Pf (v:=v) x0 x1;cases hbit:J3 X v with
 | true=>
  rw [hbit] at hb;have hc:=AD (UF rl rh hS hw hk al.1 ah.1 (by omega));have Hbit:=AD hbit;have Ht:=AD ht;have Hlim:=AD hlim;clear hbit ht hlim hc0 x1' x2 x5 pll plh;go_in
  go_wp2_with fail
  refine hc.out.mono ?_;rintro e w' ⟨r,S',rfl,hs,hkp,P⟩;go_wp2
  go_ret
  exact ⟨r,S',rfl,hs,hkp,P.ext,P.wf,P.known,QA.bit hw P.wf P.ext Ht.out Hbit.out al ah P.ok P.den P.lev,by have:=P.next;omega⟩
 | false=>
  rw [hbit] at hb;have hl1:=al.2.1;have hl2:=ah.2.1;have hc:=AD (JR hS hw v rl rh v0 v1 al.1 ah.1 (fun _=>⟨by omega,by omega⟩) (by unfold Fq at hlim;omega));have Hbit:=AD hbit;have Ht:=AD ht;have Hlim:=AD hlim;have Hc0:=AD hc0;clear hbit ht hlim hc0 x1' x2 x5 pll plh hl1 hl2;go_in
  go_wp2_with fail
  refine hc.out.mono ?_;rintro e w' ⟨r,S',rfl,hs,hkp,P⟩;go_wp2
  go_ret
  exact ⟨r,S',rfl,hs,hkp,P.ext,P.wf,hk.ext P.ext hw P.wf P.known,QA.keep hw Ht.out Hbit.out al ah P,by have:=P.next;have:=Hc0.out;omega⟩
theorem Wx (B:SB) (rd p q n:Nat) (X:Int) (n8:n≤12) (x0:0≤X) (x1:X<4096) (hr:rd∉B.own) (hp:p∉rd :: B.own) (hq:q∉rd :: B.own) :
  Mg B rd 212 (fun v rl rh=>#[.int .i64 v,.int .i64 rl,.int .i64 rh,.pointer (some ⟨p,0,none⟩),.pointer (some ⟨q,0,none⟩)]) (ExC B p q X) (fun S=>S.n=n) (QA X) (Gp n+1) where
 sep:=hr
 keepC w w' h k:=⟨h.1.keeps k hp,h.2.keeps k hq⟩
 mono S S' f r okf x hw hw' _ _ h:=QA.mono S S' f r okf x hw hw' h
 cost:=by have:=Ee n;omega
 join w S f v l h rl rh hS hw hk hi hC ht al ah hlim:=by
  subst hi;exact (jQ f v l h rl rh hS hw hk hC n8 x0 x1 ht al ah hlim).mono fun e w' ⟨r,S',a1,a2,a3,a4,a5,a6,a7,a8⟩=>⟨r,S',a1,a2,a3,a4,a5,a6,a4.n,a7,a8⟩
attribute [local go_sem] M5 Lq
theorem Al.fresh {w:World} {B:SB} {S:ST} (h:Al w B S) {i:Nat} (hi:w.heap.size≤i):i∉B.own:=fun x=>by have:=h.lt _ x;omega
theorem B3 {i j:Nat} {l:List Nat} (h:i≠j) (k:i∉l):i∉j :: l:=fun x=>(AJ.1 x).elim h k
theorem size_alloc (w:World) (o:Obj):(w.alloc o).heap.size=w.heap.size+1:=by simp
theorem Sk {B:SB} {w:World} {S:ST} (f X:Int) (hS:Al w B S) (hw:WF S) (hk:Jw S) (okf:S.ok f) (n8:S.n≤12) (x0:0≤X) (x1:X<4096) (hlim:S.next+fc (Gp S.n+1) S.n<Fq) :
  Calls prog 147 #[.pointer (some ⟨B.b,0,none⟩),.int .i64 f,.int .i64 X] w (VW B w S (QA X) f (fc (Gp S.n+1) S.n)):=by
 have hmm:=@run_makeMap prog;have E:=Wx B (w.heap.size+1+1) (w.heap.size+1) w.heap.size S.n X n8 x0 x1 (hS.fresh (by omega)) (B3 (by omega) (hS.fresh (by omega))) (B3 (by omega) (hS.fresh (by omega)));have hc:=AD (Sd E S.n);have Hlim:=AD hlim;clear hlim E;go_in
 go_wp2_with fail
 have s1:=size_alloc w (.cells #[.pointer (some ⟨B.b,0,none⟩)] 135);have s2:=size_alloc (w.alloc (.cells #[.pointer (some ⟨B.b,0,none⟩)] 135)) (.cells #[.int .i64 X] 3);have a1:=AM.new w #[.pointer (some ⟨B.b,0,none⟩)] 135;have a2:=AM.new (w.alloc (.cells #[.pointer (some ⟨B.b,0,none⟩)] 135)) #[.int .i64 X] 3;have a3:=dN ((w.alloc (.cells #[.pointer (some ⟨B.b,0,none⟩)] 135)).alloc (.cells #[.int .i64 X] 3)) 0 0 1 1 (by decide);have k1:=AA.alloc [] w (.cells #[.pointer (some ⟨B.b,0,none⟩)] 135);have k2:=AA.alloc [] (w.alloc (.cells #[.pointer (some ⟨B.b,0,none⟩)] 135)) (.cells #[.int .i64 X] 3);have k3:=AA.alloc [] ((w.alloc (.cells #[.pointer (some ⟨B.b,0,none⟩)] 135)).alloc (.cells #[.int .i64 X] 3)) (.map #[{ key:=.int .i64 0,val:=.int .i64 0,born:=0 },{ key:=.int .i64 1,val:=.int .i64 1,born:=1 }] 2);have b1:=(a1.keeps k2).keeps k3;have b2:=a2.keeps k3;rw [s1] at b2 s2;rw [s2] at a3;have kk:=(k1.trans k2).trans k3;have hS3:=hS.keeps kk;refine (hc.out _ S [(0,0),(1,1)] f hS3 hw hk rfl ⟨b2,b1⟩ a3 ⟨?_,rfl,rfl⟩ okf ?_ Hlim.out).mono ?_
 ·intro g r hg;have hm:=FK hg;simp only [AJ,Prod.mk.injEq,BA,or_false] at hm;rcases hm with ⟨rfl,rfl⟩ | ⟨rfl,rfl⟩
  ·exact ⟨E2 S,QA.const X S (.inl rfl)⟩
  ·exact ⟨G8 S,QA.const X S (.inr rfl)⟩
 ·have:=(Bb hw okf).1;omega
 rintro e w' ⟨r,S',D',rfl,hs,hd,hkp,hC',p⟩;go_wp2
 go_ret
 refine ⟨r,S',rfl,hs,(kk.mono (by simp)).trans_new hkp ?_,p.ext,p.wf,p.known,p.rel,p.next⟩;intro i hi;rcases AJ.1 hi with e | x
 ·exact .inr (by omega)
 ·exact .inl x
end
section
open Go.RowKit
theorem UH {B:SB} {w:World} {S:ST} (hS:Al w B S):Calls prog 143 #[.pointer (some ⟨B.b,0,none⟩)] w fun e w'=>e=.returned (.int .i64 S.n)∧w' = w:=by
 have c0:=hS.head.cell 0;simp at c0;go_in
 go_wp2
 go_ret
 exact ⟨rfl,rfl⟩
attribute [local go_sem] M5 Lq
def Gf (a:Int):Int→Bool:=fun v=>J3 a v
theorem Wy {B:SB} {w:World} {S:ST} (f a:Int) (hS:Al w B S) (hw:WF S) (okf:S.ok f) (n8:S.n≤12) (a0:0≤a) (a1:a<4096) :
  Calls prog 85 #[.pointer (some ⟨B.b,0,none⟩),.int .i64 f,.int .i64 a] w fun e w'=>e=.returned (.bool (S.den f (Gf a)))∧AA [] w w':=by
 go_in
 go_wp2
 go_loopw [1] (fun t wr=>∃ g:Int,t=.int .i64 g∧S.ok g∧S.den g (Gf a)=S.den f (Gf a)∧AA [] w wr) (fun t _=>((S.n:Int) - S.lev (intOf t)).toNat)
 case atStart=>exact ⟨f,rfl,okf,rfl,AA.refl _ _⟩
 case round=>
  obtain ⟨g,rfl,okg,hden,hkp⟩:=hrel;have Hden:=AD hden;clear hden;have hSr:=hS.keeps hkp;by_cases hg:1<g
  ·have okg':=okg;rcases okg' with rfl | rfl | ⟨g2,⟨v,l,h⟩,ht⟩
   ·omega
   ·omega
   obtain ⟨x1,x2,v0,v1,x5,okl,okh,pll,plh⟩:=hw.node g v l h ht;have v8:v<12:=(by omega);have hl:=look71' hSr ht;have c2:=hSr.head.cell 2;simp at c2;have hb:=Pf (v:=v) a0 a1;have Ht:=AD ht;have Hpl:=AD pll;have Hph:=AD plh;clear ht x1 x2 x5 pll plh;cases hbit:J3 a v with
   | true=>
    rw [hbit] at hb;have Hbit:=AD hbit;clear hbit;go_wp2
    go_roundw
    case rel=>exact ⟨h,rfl,okh,by rw [←Hden.out,Cd hw Ht.out];simp [Gf,Hbit.out],hkp.trans (AA.alloc _ _ _)⟩
    case measure=>simp only [intOf];have:=Hph.out;have:=Bb hw okh;rw [Cf hw Ht.out];dsimp only;omega
   | false=>
    rw [hbit] at hb;have Hbit:=AD hbit;clear hbit;go_wp2
    go_roundw
    case rel=>exact ⟨l,rfl,okl,by rw [←Hden.out,Cd hw Ht.out];simp [Gf,Hbit.out],hkp.trans (AA.alloc _ _ _)⟩
    case measure=>simp only [intOf];have:=Hpl.out;have:=Bb hw okl;rw [Cf hw Ht.out];dsimp only;omega
  ·have hg1:g≤1:=(by omega);have hd:decide (1<g)=false:=by simp;omega
   clear hg;go_wp2
   go_ret
   refine ⟨?_,hkp⟩;have e:(g == 1)=S.den f (Gf a):=by
    rw [←Hden.out];rcases okg with rfl | rfl | ⟨g2,_⟩
    ·rw [CF];rfl
    ·rw [Da];rfl
    ·omega
   rw [e];rfl
end
section
open Go.RowKit
def RQ (G:ST→Int→Prop) (B:SB) (rd:Nat) (cl:Value) (C:World→Prop) (I:ST→Prop) (R:ST→Int→Int→Prop) (cj:Int) (k:Nat):Prop:=
 ∀ (w:World) (S:ST) (D:List (Int×Int)) (f:Int),Al w B S→WF S→Jw S→I S→C w→Bo eI eI w rd D→nR R S D→S.ok f→G S f→(S.n:Int) - S.lev f≤k→S.next+fc cj k<Fq →
  Calls prog 210 #[.pointer (some ⟨B.b,0,none⟩),.int .i64 f,.map (some rd),cl] w (G4 B rd C I R cj w S f k)
structure P9 (G:ST→Int→Prop) (B:SB) (rd:Nat) (fid:FuncId) (args:Int→Int→Int→Array Value) (C:World→Prop) (I:ST→Prop) (R:ST→Int→Int→Prop) (cj:Int):Prop where
 sep:rd∉B.own
 keepC:∀ w w',C w→AA (rd :: B.own) w w'→C w'
 mono:∀ S S' f r,S.ok f→EH S S'→WF S→WF S'→I S→I S'→R S f r→R S' f r
 cost:0≤cj
 down:∀ S f v l h,WF S→G S f→DH S.N f=some (v,l,h)→G S l∧G S h
 up:∀ S S' f,EH S S'→WF S→WF S'→S.ok f→G S f→G S' f
 join:∀ w S f v l h rl rh,Al w B S→WF S→Jw S→I S→C w→DH S.N f=some (v,l,h)→G S f→R S l rl→R S h rh→S.next+cj<Fq →
  Calls prog fid (args v rl rh) w fun e w'=>∃ r S',e=.returned (.int .i64 r)∧Al w' B S'∧AA B.own w w'∧EH S S'∧WF S'∧Jw S'∧I S'∧R S' f r∧S'.next≤S.next+cj
theorem Sc {B:SB} {rd:Nat} {C:World→Prop} {I:ST→Prop} {R:ST→Int→Int→Prop} {G:ST→Int→Prop} {cj:Int} {p q:Nat} (E:P9 G B rd 211 (fun v rl rh=>#[.int .i64 v,.int .i64 rl,.int .i64 rh,.pointer (some ⟨p,0,none⟩),.pointer (some ⟨q,0,none⟩)]) C I R cj) {k:Nat}
  (ih:Hid (RQ G B rd (.func (.func 211) #[] #[.pointer (some ⟨p,0,none⟩),.pointer (some ⟨q,0,none⟩)]) C I R cj k)) {w:World} {S:ST} {D:List (Int×Int)} (f v l h:Int) (hS0:Al w B S) (hw:WF S) (hk:Jw S) (hi:I S) (hC:C w) (hD0:Bo eI eI w rd D) (hd:nR R S D) (hG:G S f) (hno:DH D f=none) (ht:DH S.N f=some (v,l,h))
  (hlev:(S.n:Int) - S.lev f≤(k+1:Nat)) (hlim:S.next+fc cj (k+1)<Fq) :
  Calls prog 210 #[.pointer (some ⟨B.b,0,none⟩),.int .i64 f,.map (some rd),.func (.func 211) #[] #[.pointer (some ⟨p,0,none⟩),.pointer (some ⟨q,0,none⟩)]] w (G4 B rd C I R cj w S f (k+1)):=by
 have hn:=hw.node f v l h ht;have hsep:=E.sep;have hl:=look71' hS0 ht;have hlk:=ET (P:=prog) underlying146 I1 (z:=.int .i64 0) LH hD0 f true;simp only [hno,Ce,CA,eI,B6,if_true] at hlk;have c2:=hS0.head.cell 2;simp at c2;have Hlim:=AD hlim;have Hlev:=AD hlev;have Ht:=AD ht;have Hn:=AD hn;have Hg:=AD (E.down _ _ _ _ _ hw hG ht);have HG:=AD hG;clear hlim hlev ht hn hno hG;go_in
 go_wp2
 have hN:=AM.new w #[.int .i64 v,.int .i64 l,.int .i64 h] 228;have hS:=hS0.alloc (.cells #[.int .i64 v,.int .i64 l,.int .i64 h] 228);have hK:=AA.alloc (rd :: B.own) w (.cells #[.int .i64 v,.int .i64 l,.int .i64 h] 228);have hD:Bo eI eI _ rd D:=hD0.of_heap (Go.RowKit.Below.heap_alloc w (.cells #[.int .i64 v,.int .i64 l,.int .i64 h] 228) rd hD0.lt);have hC1:=E.keepC _ _ hC hK;have hne:w.heap.size∉rd :: B.own:=fun x=>by
  rcases AJ.1 x with e | x
  ·exact absurd hD0.lt (by rw [e];omega)
  ·exact Nat.lt_irrefl _ (hS0.lt _ x)
 clear hl hlk c2;generalize w.alloc (.cells #[.int .i64 v,.int .i64 l,.int .i64 h] 228)=W at hN hS hK hD hC1 ⊢;generalize w.heap.size=z at hN hne ⊢;have hC2:C W.drew:=E.keepC _ _ hC1 (AA.drew _ _);have hD2:Bo eI eI W.drew rd D:=hD.of_heap rfl;have hN2:AM W.drew z _:=hN.of_heap rfl;have hK2:=hK.trans (AA.drew (rd :: B.own) W);have hS2:=hS.drew;have g0:=Ff hN
 go_region_held3 (fun w'=>w'.cell? ⟨z,0,none⟩=some (.int .i64 v)∧w'.cell? ⟨z,1,none⟩=some (.int .i64 l)∧w'.cell? ⟨z,2,none⟩=some (.int .i64 h)) (first | exact Ff hN2 | exact Ff hN3 | exact Ff hN4 | exact Ff hN5)
  (first
   | (go_at_call_of 210 (Value.int IntKind.i64 l)
      refine (ih.out W.drew S D l hS2 hw hk hi hC2 hD2 hd Hn.out.2.2.2.2.2.1 Hg.out.1 ?_ ?_).mono ?_
      ·have:=Hlev.out;have:=Hn.out.2.2.2.2.2.2.2.1;rw [Cf hw Ht.out] at *;dsimp only at *;omega
      ·have:=Hlim.out;simp only [fc] at this;have:=I5 E.cost k;have:=E.cost;omega
      rintro e W3 ⟨r0,S1,D1,rfl,hS3,hD3,k3,hC3,p0⟩;have hN3:=hN2.keeps k3 hne
      have hK3:=hK2.trans k3)
   | (go_at_call_of 210 (Value.int IntKind.i64 h)
      refine (ih.out W3 S1 D1 h hS3 p0.wf p0.known p0.inv hC3 hD3 p0.dok (p0.ext.ok Hn.out.2.2.2.2.2.2.1) (E.up _ _ _ p0.ext hw p0.wf Hn.out.2.2.2.2.2.2.1 Hg.out.2) ?_ ?_).mono ?_
      ·rw [p0.ext.lev Hn.out.2.2.2.2.2.2.1,p0.ext.n];have:=Hlev.out;have:=Hn.out.2.2.2.2.2.2.2.2;rw [Cf hw Ht.out] at *;dsimp only at *;omega
      ·have:=Hlim.out;simp only [fc] at this;have:=p0.next;have:=E.cost;omega
      rintro e W4 ⟨r1,S2,D2,rfl,hS4,hD4,k4,hC4,p1⟩;have hN4:=hN3.keeps k4 hne
      have hK4:=hK3.trans k4)
   | (go_at_call 211
      refine (E.join W4 S2 f v l h r0 r1 hS4 p1.wf p1.known p1.inv hC4 (p1.ext.node _ _ (p0.ext.node _ _ Ht.out)) (E.up _ _ _ (p0.ext.trans p1.ext) hw p1.wf (.inr (.inr ⟨Hn.out.1,_,Ht.out⟩)) HG.out) (E.mono _ _ _ _ (p0.ext.ok Hn.out.2.2.2.2.2.1) p1.ext p0.wf p1.wf p0.inv p1.inv p0.rel) p1.rel ?_).mono ?_
      ·have:=Hlim.out;simp only [fc] at this;have:=p0.next;have:=p1.next;omega
      rintro e W5 ⟨r,S3,rfl,hS5,k5,x5,w5,kk5,i5,rel5,n5⟩;have k5':AA (rd :: B.own) W4 W5:=k5.mono (fun i hi=>AO _ hi);have hN5:=hN4.keeps k5' hne;have hK5:=hK4.trans k5';have hC5:=E.keepC _ _ hC4 k5'
      have hD5:Bo eI eI W5 rd D2:=hD4.of_heap (k5.block rd hD4.lt hsep)))
 all_goals
  obtain ⟨o,hrun,hmm⟩:=F6 (P:=prog) underlying146 I1 hD5 f r;simp only [eI] at hrun;go_wp2
  go_ret
  refine ⟨r,S3,put D2 f r,rfl,hS5.of_heap (fun i hi=>CU o (fun e=>hsep (e ▸ hi))),hmm,hK5.trans ((AA.blk _ _ _).mono (by simp)),E.keepC _ _ hC5 ((AA.blk _ _ _).mono (by simp)),?_⟩;exact Im E.mono hw Ht.out p0 p1 x5 w5 kk5 i5 rel5 n5
theorem QT {B:SB} {rd:Nat} {C:World→Prop} {I:ST→Prop} {R:ST→Int→Int→Prop} {G:ST→Int→Prop} {cj:Int} {p q:Nat} (E:P9 G B rd 211 (fun v rl rh=>#[.int .i64 v,.int .i64 rl,.int .i64 rh,.pointer (some ⟨p,0,none⟩),.pointer (some ⟨q,0,none⟩)]) C I R cj):∀ k,RQ G B rd (.func (.func 211) #[] #[.pointer (some ⟨p,0,none⟩),.pointer (some ⟨q,0,none⟩)]) C I R cj k:=by
 intro k;induction k with
 | zero=>
  intro w S D f hS hw hk hi hC hD hd okf hG hl hlim;have fl:¬ 2≤f:=fun x=>by have:=(DJ hw okf).2 x;omega
  have hs:(DH D f).isSome=true:=by
   rcases okf with rfl | rfl | ⟨x,_⟩
   ·exact hd.zero
   ·exact hd.one
   ·exact absurd x fl
  obtain ⟨r,hr⟩:=Bl.1 hs;exact G3 E.cost 0 hS hw hk hi hC hD hd hr
 | succ k ih=>
  intro w S D f hS hw hk hi hC hD hd okf hG hl hlim;cases hg:DH D f with
  | some r=>exact G3 E.cost _ hS hw hk hi hC hD hd hg
  | none=>
   rcases okf with rfl | rfl | ⟨x,⟨v,l,h⟩,ht⟩
   ·have:=hd.zero;rw [hg] at this;cases this
   ·have:=hd.one;rw [hg] at this;cases this
   ·exact Sc E (AD ih) f v l h hS hw hk hi hC hD hd hG hg ht hl hlim
def Hk (k:Nat) (S:ST) (f:Int):Prop:=∀ v:Int,(k:Int)≤v→v<S.n→∀ σ b,S.den f (LJ σ v b)=S.den f σ
theorem Hk.var {k:Nat} {S:ST} {f v l h:Int} (hw:WF S) (hh:Hk k S f) (ht:DH S.N f=some (v,l,h)):v<k:=by
 apply Classical.byContradiction;intro hc;obtain ⟨_,_,v0,v1,_⟩:=hw.node f v l h ht;exact hangs hw ht fun σ=>by rw [hh v (by omega) v1,hh v (by omega) v1]
theorem Hk.down {k:Nat} {S:ST} {f v l h:Int} (hw:WF S) (hh:Hk k S f) (ht:DH S.N f=some (v,l,h)):Hk k S l∧Hk k S h:=by
 have hv:=hh.var hw ht;obtain ⟨_,_,v0,v1,_,okl,okh,pl,ph⟩:=hw.node f v l h ht;constructor
 ·intro u u0 u1 σ b;have h1:=hh u u0 u1 (LJ σ v false) b;rw [Cd hw ht,Cd hw ht,OO _ _ (by omega:v≠u),L3,Tb _ (by omega:v≠u)] at h1;simp only [BT,if_false] at h1;rwa [CS hw okl v0 v1 pl,CS hw okl v0 v1 pl] at h1
 ·intro u u0 u1 σ b;have h1:=hh u u0 u1 (LJ σ v true) b;rw [Cd hw ht,Cd hw ht,OO _ _ (by omega:v≠u),L3,Tb _ (by omega:v≠u)] at h1;simp only [if_true] at h1;rwa [CS hw okh v0 v1 ph,CS hw okh v0 v1 ph] at h1
theorem Hk.ext {k:Nat} {S S':ST} {f:Int} (x:EH S S') (hw:WF S) (hw':WF S') (okf:S.ok f) (hh:Hk k S f):Hk k S' f:=fun v v0 v1 σ b=>by
 rw [x.den hw hw' okf,x.den hw hw' okf];exact hh v v0 (by rw [←x.n];exact v1) σ b
def SbC (B:SB) (p q bt ct:Nat) (bys:List Int) (w:World):Prop:=AM w p #[.pointer (some ⟨B.b,0,none⟩)]∧AM w q #[.slice (some ⟨bt,0,none⟩) bys.length ct]∧Bt w bt bys
theorem Og {B:SB} {p q bt ct:Nat} {bys:List Int} {w:World} (h:SbC B p q bt ct bys w) {i:Nat} {u:Int} (hu:bys[i]?=some u) :
  w.cell? ⟨p,0,none⟩=some (.pointer (some ⟨B.b,0,none⟩))∧w.cell? ⟨q,0,none⟩=some (.slice (some ⟨bt,0,none⟩) bys.length ct)∧w.cell? ⟨bt,i,none⟩=some (.int .i64 u):=
 ⟨h.1.cell 0,h.2.1.cell 0,h.2.2.cell hu⟩
def Z2 (S:ST) (bys:List Int) (σ:Int→Bool):Int→Bool:=fun v=>S.den ((bys[v.toNat]?).getD 0) σ
def SbR (bys:List Int) (S:ST) (f r:Int):Prop:=S.ok r∧∀ σ:Int→Bool,S.den r σ=S.den f (Z2 S bys σ)
theorem Rr {S S':ST} {bys:List Int} (x:EH S S') (hw:WF S) (hw':WF S') (hb:∀ b∈bys,S.ok b) (σ:Int→Bool):Z2 S' bys σ=Z2 S bys σ:=by
 funext v
 unfold Z2;cases hv:bys[v.toNat]? with
 | none=>simp only [CA,CF]
 | some b=>simp only [BS];exact x.den hw hw' (hb b (AF hv)) σ
theorem aV {B:SB} {w:World} {S:ST} {p q bt ct:Nat} {bys:List Int} (f v l h rl rh y:Int) (hS:Al w B S) (hw:WF S) (hk:Jw S) (hC:SbC B p q bt ct bys w) (hp:p∉B.own) (hq:q∉B.own) (hbt:bt∉B.own)
  (hby:∀ b∈bys,S.ok b) (hy:bys[v.toNat]?=some y) (ht:DH S.N f=some (v,l,h)) (al:SbR bys S l rl) (ah:SbR bys S h rh) (hlim:S.next+Gp S.n<Fq) :
  Calls prog 211 #[.int .i64 v,.int .i64 rl,.int .i64 rh,.pointer (some ⟨p,0,none⟩),.pointer (some ⟨q,0,none⟩)] w fun e w'=>∃ r S',e=.returned (.int .i64 r)∧Al w' B S'∧AA B.own w w'∧EH S S'∧WF S'∧Jw S'∧SbR bys S' f r∧S'.next≤S.next+Gp S.n:=by
 obtain ⟨x1,x2,v0,v1,x5,okl,okh,pll,plh⟩:=hw.node f v l h ht;have hvl:v<bys.length:=by have:=(AL.1 hy).1;omega
 have okf:S.ok f:=.inr (.inr ⟨x1,_,ht⟩);have hyy:=hby y (AF hy);have hc:=AD (fun (w:World) (h:Al w B S)=>G0 y rh rl h hw hk hyy ah.1 al.1 hlim);have Ht:=AD ht;have Hlim:=AD hlim;have Hy:=AD hy;have g0:=Og hC hy;have hC2:SbC B p q bt ct bys w.drew:=⟨hC.1.of_heap rfl,hC.2.1.of_heap rfl,hC.2.2.of_heap rfl⟩;have hS2:=hS.drew;clear ht hlim x1 x2 x5 pll plh hy hyy;go_in
 go_wp2
 go_region_held3 (fun w'=>w'.cell? ⟨p,0,none⟩=some (.pointer (some ⟨B.b,0,none⟩))∧w'.cell? ⟨q,0,none⟩=some (.slice (some ⟨bt,0,none⟩) bys.length ct)∧w'.cell? ⟨bt,v.toNat,none⟩=some (.int .i64 y)) (first | exact Og hC2 Hy.out | exact Og hC3 Hy.out)
  (first
   | (go_at_call 141
      refine (hc.out _ hS2).mono ?_;rintro e W3 ⟨r,S2,rfl,hS4,k4,p2⟩
      have hC3:SbC B p q bt ct bys W3:=⟨hC2.1.keeps k4 hp,hC2.2.1.keeps k4 hq,hC2.2.2.of_heap (k4.block _ hC2.2.2.lt hbt)⟩))
 all_goals
  go_wp2
  go_ret
  refine ⟨r,S2,rfl,hS4,(AA.drew _ _).trans k4,p2.ext,p2.wf,p2.known,⟨p2.ok,fun σ=>?_⟩,p2.next⟩;rw [p2.den,ah.2,al.2,p2.ext.den hw p2.wf okf,Rr p2.ext hw p2.wf hby,Cd hw Ht.out];simp only [Z2,Hy.out,BS]
theorem gU (B:SB) (rd p q bt ct n k:Nat) (bys:List Int) (hr:rd∉B.own) (hp:p∉rd :: B.own) (hq:q∉rd :: B.own) (hb:bt∉rd :: B.own) (hlen:k≤bys.length) :
  P9 (Hk k) B rd 211 (fun v rl rh=>#[.int .i64 v,.int .i64 rl,.int .i64 rh,.pointer (some ⟨p,0,none⟩),.pointer (some ⟨q,0,none⟩)]) (SbC B p q bt ct bys) (fun S=>S.n=n∧∀ b∈bys,S.ok b) (SbR bys) (Gp n) where
 sep:=hr
 keepC w w' h k:=⟨h.1.keeps k hp,h.2.1.keeps k hq,h.2.2.of_heap (k.block _ h.2.2.lt hb)⟩
 mono S S' f r okf x hw hw' hi _ h:=⟨x.ok h.1,fun σ=>by rw [x.den hw hw' h.1,h.2,x.den hw hw' okf,Rr x hw hw' hi.2]⟩
 cost:=Ee n
 down S f v l h hw hg ht:=hg.down hw ht
 up S S' f x hw hw' okf hg:=hg.ext x hw hw' okf
 join w S f v l h rl rh hS hw hk hi hC ht hG al ah hlim:=by
  obtain ⟨hi,hby⟩:=hi;subst hi;obtain ⟨x1,x2,v0,v1,_⟩:=hw.node f v l h ht;have hv:=hG.var hw ht;have hl2:v.toNat<bys.length:=by omega
  exact (aV f v l h rl rh _ hS hw hk hC (fun x=>hp (AO _ x)) (fun x=>hq (AO _ x)) (fun x=>hb (AO _ x)) hby (AB hl2) ht al ah hlim).mono fun e w' ⟨r,S',a1,a2,a3,a4,a5,a6,a7,a8⟩=>⟨r,S',a1,a2,a3,a4,a5,a6,⟨a4.n,fun b hb=>a4.ok (hby b hb)⟩,a7,a8⟩
attribute [local go_sem] M5 Lq
theorem Rg {B:SB} {w:World} {S:ST} (f:Int) (bt ct:Nat) (k:Nat) (bys:List Int) (hS:Al w B S) (hw:WF S) (hk:Jw S) (okf:S.ok f) (hrow:Bt w bt bys) (hbt:bt∉B.own) (hlen:k≤bys.length) (hby:∀ b∈bys,S.ok b) (hG:Hk k S f) (hlim:S.next+fc (Gp S.n) S.n<Fq) :
  Calls prog 146 #[.pointer (some ⟨B.b,0,none⟩),.int .i64 f,.slice (some ⟨bt,0,none⟩) bys.length ct] w (VW B w S (SbR bys) f (fc (Gp S.n) S.n)):=by
 have hmm:=@run_makeMap prog;have hbl:=hrow.lt;have E:=gU B (w.heap.size+1+1) w.heap.size (w.heap.size+1) bt ct S.n k bys (hS.fresh (by omega)) (B3 (by omega) (hS.fresh (by omega))) (B3 (by omega) (hS.fresh (by omega))) (B3 (by omega) hbt) hlen;have hc:=AD (QT E S.n);have Hlim:=AD hlim;have Hlen:=AD hlen;have Hby:=AD hby;have HG:=AD hG;clear hlim E hlen hbl hby hG;go_in
 go_wp2_with fail
 have s1:=size_alloc w (.cells #[.pointer (some ⟨B.b,0,none⟩)] 135);have s2:=size_alloc (w.alloc (.cells #[.pointer (some ⟨B.b,0,none⟩)] 135)) (.cells #[.slice (some ⟨bt,0,none⟩) bys.length ct] 40);have a1:=AM.new w #[.pointer (some ⟨B.b,0,none⟩)] 135;have a2:=AM.new (w.alloc (.cells #[.pointer (some ⟨B.b,0,none⟩)] 135)) #[.slice (some ⟨bt,0,none⟩) bys.length ct] 40;have a3:=dN ((w.alloc (.cells #[.pointer (some ⟨B.b,0,none⟩)] 135)).alloc (.cells #[.slice (some ⟨bt,0,none⟩) bys.length ct] 40)) 0 0 1 1 (by decide);have k1:=AA.alloc [] w (.cells #[.pointer (some ⟨B.b,0,none⟩)] 135);have k2:=AA.alloc [] (w.alloc (.cells #[.pointer (some ⟨B.b,0,none⟩)] 135)) (.cells #[.slice (some ⟨bt,0,none⟩) bys.length ct] 40);have k3:=AA.alloc [] ((w.alloc (.cells #[.pointer (some ⟨B.b,0,none⟩)] 135)).alloc (.cells #[.slice (some ⟨bt,0,none⟩) bys.length ct] 40)) (.map #[{ key:=.int .i64 0,val:=.int .i64 0,born:=0 },{ key:=.int .i64 1,val:=.int .i64 1,born:=1 }] 2);have b1:=(a1.keeps k2).keeps k3;have b2:=a2.keeps k3;rw [s1] at b2 s2;rw [s2] at a3;have kk:=(k1.trans k2).trans k3;have hS3:=hS.keeps kk;have hrow3:=hrow.of_heap (kk.block _ hrow.lt (by simp));refine (hc.out _ S [(0,0),(1,1)] f hS3 hw hk ⟨rfl,Hby.out⟩ ⟨b1,b2,hrow3⟩ a3 ⟨?_,rfl,rfl⟩ okf HG.out ?_ Hlim.out).mono ?_
 ·intro g r hg;have hm:=FK hg;simp only [AJ,Prod.mk.injEq,BA,or_false] at hm;rcases hm with ⟨rfl,rfl⟩ | ⟨rfl,rfl⟩
  ·exact ⟨E2 S,E2 S,fun σ=>by rw [CF,CF]⟩
  ·exact ⟨G8 S,G8 S,fun σ=>by rw [Da,Da]⟩
 ·have:=(Bb hw okf).1;omega
 rintro e w' ⟨r,S',D',rfl,hs,hd,hkp,hC',p⟩;go_wp2
 go_ret
 refine ⟨r,S',rfl,hs,(kk.mono (by simp)).trans_new hkp ?_,p.ext,p.wf,p.known,p.rel,p.next⟩;intro i hi;rcases AJ.1 hi with e | x
 ·exact .inr (by omega)
 ·exact .inl x
end
section
open Go.RowKit
theorem Ph (a v:Nat):J3 (a:Int) (v:Int)=a.testBit v:=by
 unfold J3;rw [Nat.testBit_eq_decide_div_mod_eq,BO];congr 1
 rw [eq_iff_iff];constructor
 ·intro h;have:((a / 2 ^ v % 2:Nat):Int)=1:=by push_cast;exact h
  omega
 ·intro h;have:((a / 2 ^ v % 2:Nat):Int)=1:=by omega
  push_cast at this;exact this
def Kg:Nat→Nat→List Nat
 | 0,_=>[0]
 | k+1,i=>Kg k (i+1)++(Kg k (i+1)).map fun y=>y+2 ^ i
def ST.tl (S:ST):Nat→Nat→Int→Nat→List Nat
 | 0,_,f,a=>if f=0 then [] else [a]
 | k+1,i,f,a=>if f=0 then [] else S.tl k (i+1) (S.cof f i).1 a++S.tl k (i+1) (S.cof f i).2 (a+2 ^ i)
theorem JA:∀ {k i y:Nat},y∈Kg k i→∃ z,z<2 ^ k∧y=z * 2 ^ i
 | 0,i,y,h=>⟨0,by simp,by simpa [Kg] using h⟩
 | k+1,i,y,h=>by
  simp only [Kg,AC,AR] at h;rcases h with h | ⟨x,h,rfl⟩
  ·obtain ⟨z,hz,rfl⟩:=JA h;exact ⟨2 * z,by rw [CZ];omega,by rw [CZ,DQ (2 ^ i) 2,←Nat.mul_assoc,DQ z 2]⟩
  ·obtain ⟨z,hz,rfl⟩:=JA h;exact ⟨2 * z+1,by rw [CZ];omega,by rw [CZ,DQ (2 ^ i) 2,←Nat.mul_assoc,DQ z 2,D0,Nat.one_mul]⟩
theorem RI (x q v:Nat) (h:q≤v):(x * 2 ^ q).testBit v=x.testBit (v - q):=by
 rw [Nat.testBit_mul_two_pow];simp [h]
theorem Pg (z d q n v:Nat) (hd:d<2 ^ n):(z * 2 ^ (q+n)+d * 2 ^ q).testBit v=if v<q then false else if v<q+n then d.testBit (v - q) else (z * 2 ^ (q+n)).testBit v:=by
 have e:z * 2 ^ (q+n)+d * 2 ^ q=(2 ^ n * z+d) * 2 ^ q:=by rw [Nat.pow_add,D0];congr 1;rw [DQ (2 ^ q),←Nat.mul_assoc,DQ z]
 by_cases h:v<q
 ·rw [if_pos h,e,Nat.testBit_mul_two_pow];simp;omega
 ·rw [if_neg h,e,RI _ _ _ (by omega),Nat.testBit_two_pow_mul_add _ hd];by_cases h2:v<q+n
  ·rw [if_pos h2,if_pos (by omega)]
  ·rw [if_neg h2,if_neg (by omega),RI _ _ _ (by omega)];congr 1;omega
def lI (S:ST):Prop:=∀ v:Int,0≤v→v<S.n→S.pl v=v
theorem Hk.cof {k:Nat} {S:ST} {f:Int} (hw:WF S) (hh:Hk k S f) (u:Int):Hk k S (S.cof f u).1∧Hk k S (S.cof f u).2:=by
 unfold ST.cof;split
 ·rename_i t ht;obtain ⟨v,l,h⟩:=t;split
  ·exact hh.down hw ht
  ·exact ⟨hh,hh⟩
 ·exact ⟨hh,hh⟩
theorem Ra {S:ST} (hw:WF S) (hid:lI S):∀ (k i:Nat) (f:Int) (a:Nat),S.ok f→(i:Int)≤S.lev f→Hk (i+k) S f→i+k≤S.n→S.tl k i f a=((Kg k i).filter fun y=>S.den f (Gf (y:Nat))).map fun y=>a+y
 | 0,i,f,a,hf,hl,hh,hn=>by
  have hc:f=0∨f=1:=by
   rcases hf with h | h | ⟨h2,⟨v,l,h⟩,ht⟩
   ·exact .inl h
   ·exact .inr h
   ·exfalso;have hv:=hh.var hw ht;obtain ⟨_,_,v0,v1,_⟩:=hw.node f v l h ht;rw [Cf hw ht] at hl;have:=hid v v0 v1;simp only at hl;omega
  rcases hc with rfl | rfl
  ·simp [ST.tl,Kg,CF]
  ·simp [ST.tl,Kg,Da]
 | k+1,i,f,a,hf,hl,hh,hn=>by
  have hi:(i:Int)<S.n:=by omega
  have hpi:=hid i (by omega) hi;obtain ⟨ok0,ok1,l0,l1,_,_,hden⟩:=MU hw hf (u:=i) (by omega) hi (by rw [hpi];exact hl);rw [hpi] at l0 l1;obtain ⟨h0,h1⟩:=hh.cof hw (i:Int);have e0:=Ra hw hid k (i+1) (S.cof f i).1 a ok0 (by push_cast;omega) (by rw [show i+1+k=i+(k+1) from by omega];exact h0) (by omega);have e1:=Ra hw hid k (i+1) (S.cof f i).2 (a+2 ^ i) ok1 (by push_cast;omega) (by rw [show i+1+k=i+(k+1) from by omega];exact h1) (by omega);by_cases hf0:f=0
  ·subst hf0;simp [ST.tl,CF]
  ·simp only [ST.tl,hf0,if_false];rw [e0,e1];simp only [Kg,DW,Ar,List.filter_map,C8];congr 1
   ·congr 1
    refine Dn fun y hy=>?_;obtain ⟨z,_,rfl⟩:=JA hy;have hb:Gf ((z * 2 ^ (i+1):Nat):Int) (i:Int)=false:=by
     show J3 _ _=_;rw [Ph,Nat.testBit_mul_two_pow];simp;omega
    rw [hden,hb];rfl
   ·have e:(fun y=>a+2 ^ i+y)=(fun y=>a+y) ∘ fun y=>y+2 ^ i:=by funext y;simp;omega
    rw [e];congr 1
    refine Dn fun y hy=>?_;obtain ⟨z,_,rfl⟩:=JA hy;have hv:∀ v:Nat,J3 ((z * 2 ^ (i+1)+2 ^ i:Nat):Int) (v:Int)=if v<i then false else if v<i+1 then (1:Nat).testBit (v - i) else (z * 2 ^ (i+1)).testBit v:=fun v=>by
     have:=Pg z 1 i 1 v (by decide);rw [Nat.one_mul] at this;rw [Ph,this]
    simp only [Function.comp_apply];have hb:Gf ((z * 2 ^ (i+1)+2 ^ i:Nat):Int) (i:Int)=true:=by
     show J3 _ _=_;rw [hv];simp
    rw [hden,hb,if_pos rfl];refine RE hw ok1 _ _ fun v v0 v1 hlv=>?_;obtain ⟨j,rfl⟩:=Br v0;rw [hid _ v0 v1] at hlv;show J3 _ _=J3 _ _;rw [hv,Ph,if_neg (by omega),if_neg (by omega)]
def Fd (σ:Int→Bool) (p:Nat):Nat:=4 * (σ (3 * p:Nat)).toNat+2 * (σ (3 * p+1:Nat)).toNat+(σ (3 * p+2:Nat)).toNat
def EC (σ:Int→Bool):Nat→Nat→List Nat
 | _,0=>[]
 | p,c+1=>Fd σ p :: EC σ (p+1) c
def C7:Nat→List (List Nat)
 | 0=>[[]]
 | c+1=>(List.range 8).flatMap fun d=>(C7 c).map (d :: ·)
theorem JG {σ τ:Int→Bool}:∀ (c p:Nat),(∀ v:Nat,3 * p≤v→v<3 * (p+c)→σ v=τ v)→EC σ p c=EC τ p c
 | 0,_,_=>rfl
 | c+1,p,h=>by
  simp only [EC,Fd];rw [h (3 * p) (by omega) (by omega),h (3 * p+1) (by omega) (by omega),h (3 * p+2) (by omega) (by omega),JG c (p+1) fun v h1 h2=>h v (by omega) (by omega)]
theorem RN:∀ (c p:Nat),(Kg (3 * c) (3 * p)).map (fun y=>EC (Gf (y:Nat)) p c)=C7 c
 | 0,p=>by simp [Kg,EC,C7]
 | c+1,p=>by
  have ih:=RN c (p+1);have e:3 * (c+1)=3 * c+1+1+1:=by omega
  have e3:3 * p+1+1+1=3 * (p+1):=by omega
  have key:∀ (d r:Nat),r<8→d=4 * (r.testBit 0).toNat+2 * (r.testBit 1).toNat+(r.testBit 2).toNat→∀ (g:Nat→Nat),(∀ y,g y=y+r * 2 ^ (3 * p))→(Kg (3 * c) (3 * (p+1))).map ((fun y=>EC (Gf (y:Nat)) p (c+1)) ∘ g)=(C7 c).map (d :: ·):=by
   intro d r hr hd g hg;rw [←ih,C8];refine CV fun y hy=>?_;obtain ⟨z,_,rfl⟩:=JA hy;have hv:∀ v:Nat,Gf ((g (z * 2 ^ (3 * (p+1))):Nat):Int) (v:Int)=if v<3 * p then false else if v<3 * p+3 then r.testBit (v - 3 * p) else Gf ((z * 2 ^ (3 * (p+1)):Nat):Int) (v:Int):=fun v=>by
    show J3 _ _=if _ then _ else if _ then _ else J3 _ _;rw [Ph,Ph,hg,show 3 * (p+1)=3 * p+3 from by omega];exact Pg z r (3 * p) 3 v (by omega)
   simp only [Function.comp_apply,EC];congr 1
   ·unfold Fd;rw [hv,hv,hv,hd];simp [show ¬ 3 * p+1<3 * p by omega,show ¬ 3 * p+2<3 * p by omega,show 3 * p+1 - 3 * p=1 by omega,show 3 * p+2 - 3 * p=2 by omega]
   ·refine JG c (p+1) fun v h1 h2=>?_;rw [hv,if_neg (by omega),if_neg (by omega)]
  rw [e];simp only [Kg,e3,Ar,C8,Ag];have hp1:2 ^ (3 * p+1)=2 * 2 ^ (3 * p):=by rw [CZ,DQ]
  have hp2:2 ^ (3 * p+1+1)=4 * 2 ^ (3 * p):=by rw [CZ,CZ];omega
  have hL:C7 (c+1)=(C7 c).map (0 :: ·)++((C7 c).map (1 :: ·)++((C7 c).map (2 :: ·)++((C7 c).map (3 :: ·)++((C7 c).map (4 :: ·)++((C7 c).map (5 :: ·)++((C7 c).map (6 :: ·)++(C7 c).map (7 :: ·))))))):=by
   simp [C7,List.range_succ]
  rw [hL];have k0:=key 0 0 (by omega) (by decide) id (fun y=>by simp);rw [Function.comp_id] at k0;rw [k0];have K:=fun (d r:Nat) (h1:r<8) (h2) (g:Nat→Nat) (hg)=>key d r h1 h2 g hg;congr 1
  rw [K 1 4 (by omega) (by decide) _ (fun y=>by rw [hp2])];congr 1
  rw [K 2 2 (by omega) (by decide) _ (fun y=>by rw [hp1])];congr 1
  rw [show ((fun y=>EC (Gf ((y:Nat):Int)) p (c+1)) ∘ (fun y=>y+2 ^ (3 * p+1)) ∘ fun y=>y+2 ^ (3 * p+1+1))=(fun y=>EC (Gf ((y:Nat):Int)) p (c+1)) ∘ fun y=>y+6 * 2 ^ (3 * p) from by funext y;simp only [Function.comp_apply];rw [hp1,hp2];congr 3;omega];rw [K 3 6 (by omega) (by decide) _ (fun y=>rfl)];congr 1
  rw [K 4 1 (by omega) (by decide) _ (fun y=>by omega)];congr 1
  rw [show ((fun y=>EC (Gf ((y:Nat):Int)) p (c+1)) ∘ (fun y=>y+2 ^ (3 * p)) ∘ fun y=>y+2 ^ (3 * p+1+1))=(fun y=>EC (Gf ((y:Nat):Int)) p (c+1)) ∘ fun y=>y+5 * 2 ^ (3 * p) from by funext y;simp only [Function.comp_apply];rw [hp2];congr 3;omega];rw [K 5 5 (by omega) (by decide) _ (fun y=>rfl)];congr 1
  rw [show ((fun y=>EC (Gf ((y:Nat):Int)) p (c+1)) ∘ (fun y=>y+2 ^ (3 * p)) ∘ fun y=>y+2 ^ (3 * p+1))=(fun y=>EC (Gf ((y:Nat):Int)) p (c+1)) ∘ fun y=>y+3 * 2 ^ (3 * p) from by funext y;simp only [Function.comp_apply];rw [hp1];congr 3;omega];rw [K 6 3 (by omega) (by decide) _ (fun y=>rfl)];congr 1
  rw [show ((fun y=>EC (Gf ((y:Nat):Int)) p (c+1)) ∘ (fun y=>y+2 ^ (3 * p)) ∘ (fun y=>y+2 ^ (3 * p+1)) ∘ fun y=>y+2 ^ (3 * p+1+1))=(fun y=>EC (Gf ((y:Nat):Int)) p (c+1)) ∘ fun y=>y+7 * 2 ^ (3 * p) from by funext y;simp only [Function.comp_apply];rw [hp1,hp2];congr 3;omega];rw [K 7 7 (by omega) (by decide) _ (fun y=>rfl)]
end
section
open Go.RowKit Go.Shelf
attribute [local go_sem] Oper.semAt_some
theorem JE {m m':Nat} {l:Nat} {args:Array Value} {W:World} {R:Ending→World→Prop} (h:YieldAt Fence.wide m prog l args W R):YieldAt Fence.wide m' prog l args W R:=
 let ⟨fn,tmps,assign,body,h1,h2,h3⟩:=h
 ⟨fn,tmps,assign,body,h1,h2,fun c cs _=>h3 c cs (room_wide _)⟩
theorem SC {a i:Nat} (h:a<2 ^ i) (hi:i<12):bits BinOp.or IntKind.i64 (a:Int) ((2 ^ i:Nat):Int)=((a+2 ^ i:Nat):Int):=by
 have hp:2 ^ i<2 ^ 12:=DB (by decide) hi;have e2:=(bits_nat .i64 62 (by decide) (fun n a b=>by rw [IntKind.wrap_i64];omega) a (2 ^ i) (by omega) (by omega)).2;rw [e2];have:=Nat.two_pow_add_eq_or_of_lt h 1;rw [Nat.mul_one] at this;rw [Nat.or_comm,←this,Nat.add_comm]
def eA (x:Nat):Array Value:=#[.int .i64 (x:Int)]
theorem Kp (W:World) (p v y:Value) (a:Int):Calls prog 154 #[p,.int .i64 0,.int .i64 a,v,y] W fun e W'=>e=.returned (.bool true)∧W' = W:=by
 go_in
 go_wp2
 go_ret
 exact ⟨rfl,rfl⟩
theorem Tp (n:Nat) (W:World) (p:Value) (f:Int) (hf:(f == 0)=false) (a l c:Nat) (s:Option Addr) {R:Ending→World→Prop} (hY:∀ m,YieldAt Fence.wide m prog l (eA a) W fun e W'=>∃ b,e=.returned (.bool b)∧R e W') :
  CallsIn Fence.wide n prog 154 #[p,.int .i64 f,.int .i64 (a:Int),.slice s 0 c,.func (.yield l) #[] #[]] W R:=by
 refine callsIn_of_wp func154 rfl trivial ?_ rfl;simp only [ntmps154,Bv,AV,A1,Nat.reduceAdd,Nat.reduceSub,By,Bx,CE,Bj,BU,A6];obtain ⟨fn,tmps,assign,body,hy,hR⟩:=hY (n - 1);simp only [eA] at hy;gi_wp2_with fail
 refine ⟨fun h=>(nomatch h),?_⟩;refine hR.mono ?_;rintro e W3 ⟨b,rfl,hr⟩;gi_wp2_with fail
 exact hr
def VV (B:SB) (S:ST) (l:Nat) (J:List Nat→World→Prop) (T L:List Nat) (z k:Nat):Prop:=
 ∀ (i:Nat) (f:Int) (a c:Nat) (pre:List Nat) (W:World),i+k≤S.n→S.n≤12→k+3≤c→a<2 ^ i→S.ok f→(i:Int)≤S.lev f→(pre++S.tl k i f a) <+: L→Al W B S→z≤W.heap.size→J pre W →
  Calls prog 154 #[.pointer (some ⟨B.b,0,none⟩),.int .i64 f,.int .i64 (a:Int),.slice (some ⟨B.bo,i,none⟩) k c,.func (.yield l) #[] #[]] W fun e W'=>e=.returned (.bool true)∧J (pre++S.tl k i f a) W'∧AA (l :: T) W W'
theorem bQ {i:Nat} (hi:i<12):IntKind.i64.wrap (2 ^ i)=((2 ^ i:Nat):Int):=by
 have hp:2 ^ i<2 ^ 12:=DB (by decide) hi;have e:((2 ^ i:Nat):Int)=(2:Int) ^ i:=by push_cast;rfl
 rw [←e];generalize 2 ^ i=m at hp ⊢;rw [IntKind.wrap_i64];omega
theorem Tu (b i k c:Nat) (hc:c≠1) (w:World):(Instr.slice 40 (.slice (some ⟨b,i,none⟩) (k+1) c) (some (.int .i64 1)) none none).run prog w=.ok (.slice (some ⟨b,i+1,none⟩) k (c - 1)) w:=by
 rw [run_slice_l (P:=prog) w 40 _ _ _ (by kernel_rfl) .i64 1 (by omega) (by push_cast;omega)];simp [go_sem,sliced,hc,Addr.add]
theorem lP {a i:Nat} (h:a<2 ^ i):a<2 ^ (i+1)∧a+2 ^ i<2 ^ (i+1):=by
 rw [CZ];generalize 2 ^ i=q at *;omega
theorem Yg {B:SB} {S:ST} (hw:WF S) (hid:lI S) (ho:∀ i:Nat,i<S.n→S.order[i]?=some (i:Int)) {l:Nat} {J:List Nat→World→Prop} {T L:List Nat} {z:Nat} (hJ:Hid (∀ pre W1 W2,J pre W1→Go.RowKit.Below z W1 W2→J pre W2)) (hT:∀ i∈B.own,i∉l :: T) {k:Nat} (ih:Hid (VV B S l J T L z k))
  (i:Nat) (f:Int) (a c:Nat) (pre:List Nat) (W:World) (hn:i+(k+1)≤S.n) (n12:S.n≤12) (hc:k+1+3≤c) (ha:a<2 ^ i) (hf:S.ok f) (hf0:(f == 0)=false) (hl:(i:Int)≤S.lev f) (hpre:Hid ((pre++(S.tl k (i+1) (S.cof f i).1 a++S.tl k (i+1) (S.cof f i).2 (a+2 ^ i))) <+: L)) (hS:Al W B S) (hz:z≤W.heap.size) (h0:J pre W) :
  Calls prog 154 #[.pointer (some ⟨B.b,0,none⟩),.int .i64 f,.int .i64 (a:Int),.slice (some ⟨B.bo,i,none⟩) (k+1) c,.func (.yield l) #[] #[]] W fun e W'=>e=.returned (.bool true)∧J (pre++(S.tl k (i+1) (S.cof f i).1 a++S.tl k (i+1) (S.cof f i).2 (a+2 ^ i))) W'∧AA (l :: T) W W':=by
 have hi12:i<12:=by omega
 have hi:(i:Int)<S.n:=by omega
 have hpi:=hid i (by omega) hi;obtain ⟨ok0,ok1,l0,l1,_,_,_⟩:=MU hw hf (u:=i) (by omega) hi (by rw [hpi];exact hl);rw [hpi] at l0 l1;have hc0:=hS.order.cell (ho i (by omega));have hsp:=AD (KH hS hw f i hf);have hor:=SC ha hi12;have hpw:=bQ hi12;have Ha:=AD (lP ha);clear ha;generalize hA:2 ^ i=A at hor hpw Ha hpre ⊢;generalize a+A=a2 at hor Ha hpre ⊢;generalize hf0':(S.cof f i).1=f0 at *;generalize hf1':(S.cof f i).2=f1 at *;go_in
 go_wp2_with fail
 refine hsp.out.mono ?_;rintro e W1 ⟨rfl,k1⟩;have hS1:=hS.keeps k1;have hS1d:=hS1.keeps (AA.drew [] W1);have hz1:z≤W1.heap.size:=Ai hz k1.size;have h1:J pre W1.drew:=hJ.out _ _ _ h0 ((k1.trans (AA.drew [] W1)).below hz (by simp));have hpre1:Hid ((pre++S.tl k (i+1) f0 a) <+: L):=((List.prefix_append _ _).trans (by rw [Ag];exact hpre.out));have hc1:=AD (ih.out (i+1) f0 a (c - 1) pre W1.drew (by omega) n12 (by omega) Ha.out.1 ok0 (by push_cast;omega) hpre1.out hS1d hz1 h1);have hc01:=hS1.order.cell (ho i (by omega));have Hnx:=AD (fun (W2:World) (k2:AA (l :: T) W1.drew W2) (h2:J (pre++S.tl k (i+1) f0 a) W2)=>ih.out (i+1) f1 a2 (c - 1) (pre++S.tl k (i+1) f0 a) W2 (by omega) n12 (by omega) Ha.out.2 ok1 (by push_cast;omega) (by rw [Ag];exact hpre.out) (hS1d.keeps k2 hT) (Ai hz1 k2.size) h2);have hbo:B.bo∉l :: T:=hT _ (by simp [SB.own]);have hcd:=hS1d.order.cell (ho i (by omega));have Hcell:=AD (fun (W2:World) (k2:AA (l :: T) W1.drew W2)=>(hS1d.order.of_heap (k2.block _ hS1d.order.lt hbo)).cell (ho i (by omega)));clear hsp hpre ih;have hsl:=Tu B.bo i k c (by omega);go_wp2_with fail
 go_region_held3 (fun w'=>w'.cell? ⟨B.bo,i,none⟩=some (.int .i64 (i:Int))) (first | exact hcd | exact hc2 | exact hc3)
  (first
  | (go_at_call_of 154 (Value.int IntKind.i64 f0)
     refine hc1.out.mono ?_;rintro e W2 ⟨rfl,h2,k2⟩
     have hc2:=Hcell.out _ k2)
  | (go_at_call_of 154 (Value.int IntKind.i64 f1)
     refine (Hnx.out _ k2 h2).mono ?_;rintro e W3 ⟨rfl,h3,k3⟩
     have hc3:=Hcell.out _ (k2.trans k3)))
 all_goals
  go_wp2_with fail
  go_ret
  exact ⟨rfl,by rw [←Ag];exact h3,(((k1.trans (AA.drew [] W1)).mono (by simp)).trans k2).trans k3⟩
theorem Yh {B:SB} {S:ST} (hw:WF S) (hid:lI S) (ho:∀ i:Nat,i<S.n→S.order[i]?=some (i:Int)) {l:Nat} {J:List Nat→World→Prop} {T L:List Nat} {z:Nat} (hJ:∀ pre W1 W2,J pre W1→Go.RowKit.Below z W1 W2→J pre W2) (hT:∀ i∈B.own,i∉l :: T)
  (hY:∀ m pre x W1,J pre W1→(pre++[x]) <+: L→YieldAt Fence.wide m prog l (eA x) W1 fun e W'=>e=.returned (.bool true)∧J (pre++[x]) W'∧AA (l :: T) W1 W'):∀ k,VV B S l J T L z k:=by
 intro k;induction k with
 | zero=>
  intro i f a c pre W hn n12 hc ha hf hl hpre hS hz h0;by_cases hf0:f=0
  ·subst hf0;refine (Kp W _ _ _ _).mono ?_;rintro e W' ⟨rfl,rfl⟩;exact ⟨rfl,by simpa [ST.tl] using h0,AA.refl _ _⟩
  ·simp only [ST.tl,hf0,if_false] at hpre ⊢;refine callsIn_wide.1 (Tp 0 W _ f (by simpa using hf0) a l c _ fun m=>?_);exact (hY m pre a W h0 hpre).mono fun e W' h=>⟨true,h.1,h⟩
 | succ k ih=>
  intro i f a c pre W hn n12 hc ha hf hl hpre hS hz h0;by_cases hf0:f=0
  ·subst hf0;refine (Kp W _ _ _ _).mono ?_;rintro e W' ⟨rfl,rfl⟩;exact ⟨rfl,by simpa [ST.tl] using h0,AA.refl _ _⟩
  ·simp only [ST.tl,hf0,if_false] at hpre ⊢;exact Yg hw hid ho (AD hJ) hT (AD ih) i f a c pre W hn n12 hc ha hf (by simpa using hf0) hl hpre hS hz h0
theorem KB (w:World) (p:Addr) (f v:Int) :
  Calls prog 79 #[.pointer (some p),.int .i64 f,.int .i64 v] w fun e w'=>e=.returned (.func (.func 153) #[] #[.pointer (some ⟨w.heap.size,0,none⟩),.pointer (some ⟨w.heap.size+1,0,none⟩),.pointer (some ⟨w.heap.size+1+1,0,none⟩)]) ∧
   w' = ((w.alloc (.cells #[.pointer (some p)] 135)).alloc (.cells #[.int .i64 f] 3)).alloc (.cells #[.int .i64 v] 3):=by
 go_in
 go_wp2
 go_ret
 exact ⟨rfl,rfl⟩
end
end Go.Proofs.YtgjomknpjigkhaaGreatDoor
