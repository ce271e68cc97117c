import Derived.Test.YtgjomknpjigkhaaGreatDoorU03
import Derived.Deep.RegionHeld3
namespace Go.Proofs.YtgjomknpjigkhaaGreatDoor
open Go.Proofs.Tryz
set_option maxRecDepth 100000
set_option maxHeartbeats 4000000
section
open Go.RowKit
def fc (cj:Int):Nat→Int
 | 0=>0
 | k+1=>2 * fc cj k+cj
theorem zQJ {cj:Int} (h:0≤cj):∀ k,0≤fc cj k
 | 0=>by simp [fc]
 | k+1=>by have:=zQJ h k;simp only [fc];omega
structure DOK (R:ST→Int→Int→Prop) (S:ST) (D:List (Int×Int)):Prop where
 rel:∀ f r,get D f=some r→S.ok f∧R S f r
 zero:(get D 0).isSome=true
 one:(get D 1).isSome=true
structure FoldPost (I:ST→Prop) (R:ST→Int→Int→Prop) (S S':ST) (D':List (Int×Int)) (f r:Int) (c:Int):Prop where
 ext:Ext S S'
 wf:WF S'
 known:KOK S'
 dok:DOK R S' D'
 rel:R S' f r
 next:S'.next≤S.next+c
 inv:I S'
def hQI (B:SB) (rd:Nat) (C:World→Prop) (I:ST→Prop) (R:ST→Int→Int→Prop) (cj:Int) (w:World) (S:ST) (f:Int) (k:Nat) (e:Ending) (w':World):Prop:=
 ∃ r S' D',e=.returned (.int .i64 r)∧gQA w' B S'∧cQB eI eI w' rd D'∧aQA (rd :: B.own) w w'∧C w'∧FoldPost I R S S' D' f r (fc cj k)
def FoldSays (B:SB) (rd:Nat) (cl:Value) (C:World→Prop) (I:ST→Prop) (R:ST→Int→Int→Prop) (cj:Int) (k:Nat):Prop:=
 ∀ (w:World) (S:ST) (D:List (Int×Int)) (f:Int),gQA w B S→WF S→KOK S→I S→C w→cQB eI eI w rd D→DOK R S D→S.ok f→(S.n:Int) - S.lev f≤k→S.next+fc cj k<lim →
  Calls prog 210 #[.pointer (some ⟨B.b,0,none⟩),.int .i64 f,.map (some rd),cl] w (hQI B rd C I R cj w S f k)
structure FoldEnv (B:SB) (rd:Nat) (fid:FuncId) (args:Int→Int→Int→Array Value) (C:World→Prop) (I:ST→Prop) (R:ST→Int→Int→Prop) (cj:Int):Prop where
 sep:rd∉B.own
 keepC:∀ w w',C w→aQA (rd :: B.own) w w'→C w'
 mono:∀ S S' f r,S.ok f→Ext S S'→WF S→WF S'→I S→I S'→R S f r→R S' f r
 cost:0≤cj
 join:∀ w S f v l h rl rh,gQA w B S→WF S→KOK S→I S→C w→get S.N f=some (v,l,h)→R S l rl→R S h rh→S.next+cj<lim →
  Calls prog fid (args v rl rh) w fun e w'=>∃ r S',e=.returned (.int .i64 r)∧gQA w' B S'∧aQA B.own w w'∧Ext S S'∧WF S'∧KOK S'∧I S'∧R S' f r∧S'.next≤S.next+cj
theorem vQI {I:ST→Prop} {R:ST→Int→Int→Prop} (mono:∀ S S' f r,S.ok f→Ext S S'→WF S→WF S'→I S→I S'→R S f r→R S' f r) {S S1 S2 S3:ST} {D1 D2:List (Int×Int)} {f v l h r0 r1 r cj:Int} {k:Nat}
  (hw:WF S) (ht:get S.N f=some (v,l,h)) (p0:FoldPost I R S S1 D1 l r0 (fc cj k)) (p1:FoldPost I R S1 S2 D2 h r1 (fc cj k)) (x:Ext S2 S3) (w3:WF S3) (k3:KOK S3) (i3:I S3) (rel:R S3 f r) (n3:S3.next≤S2.next+cj) :
  FoldPost I R S S3 (put D2 f r) f r (fc cj (k+1)):=by
 have x3:=(p0.ext.trans p1.ext).trans x;refine ⟨x3,w3,k3,⟨?_,?_,?_⟩,rel,?_,i3⟩
 ·intro g q hg;rw [uQH] at hg;by_cases e:g=f
  ·subst e;simp only [if_true,Option.some.injEq] at hg;subst hg;exact ⟨x3.ok (.inr (.inr ⟨(hw.node _ _ _ _ ht).1,_,ht⟩)),rel⟩
  ·simp only [e,if_false] at hg;obtain ⟨a,b⟩:=p1.dok.rel g q hg;exact ⟨x.ok a,mono _ _ _ _ a x p1.wf w3 p1.inv i3 b⟩
 ·rw [uQH];split
  ·rfl
  ·exact p1.dok.zero
 ·rw [uQH];split
  ·rfl
  ·exact p1.dok.one
 ·have:=p0.next;have:=p1.next;simp only [fc];omega
theorem fQH {w:World} {z:Nat} {x y u:Value} (h:cQA w z #[x,y,u]):w.cell? ⟨z,0,none⟩=some x∧w.cell? ⟨z,1,none⟩=some y∧w.cell? ⟨z,2,none⟩=some u:=
 ⟨h.cell 0,h.cell 1,h.cell 2⟩
theorem fold_known {w:World} {rd:Nat} {D:List (Int×Int)} (p cl:Value) (f r:Int) (hD:cQB eI eI w rd D) (hg:get D f=some r) :
  Calls prog 210 #[p,.int .i64 f,.map (some rd),cl] w fun e w'=>e=.returned (.int .i64 r)∧w' = w:=by
 have hlk:=xQD (P:=prog) underlying146 key3 (z:=.int .i64 0) zero3 hD f true;simp only [hg,Option.map_some,Option.getD_some,eI,Option.isSome_some,if_true] at hlk;go_enter func210,ntmps210
 go_wp2
 go_ret
 exact ⟨rfl,rfl⟩
theorem cQI {B:SB} {rd:Nat} {cl:Value} {C:World→Prop} {I:ST→Prop} {R:ST→Int→Int→Prop} {cj:Int} (hc:0≤cj) (k:Nat) {w:World} {S:ST} {D:List (Int×Int)} {f r:Int} (hS:gQA w B S) (hw:WF S) (hk:KOK S) (hi:I S) (hC:C w) (hD:cQB eI eI w rd D) (hd:DOK R S D) (hg:get D f=some r) :
  Calls prog 210 #[.pointer (some ⟨B.b,0,none⟩),.int .i64 f,.map (some rd),cl] w (hQI B rd C I R cj w S f k):=
 (fold_known _ cl f r hD hg).mono fun e w' ⟨he,hw'⟩=>by
  subst hw';exact ⟨r,S,D,he,hS,hD,aQA.refl _ _,hC,Ext.refl S,hw,hk,hd,(hd.rel f r hg).2,by have:=zQJ hc k;omega,hi⟩
theorem fold_step72 {B:SB} {rd:Nat} {C:World→Prop} {I:ST→Prop} {R:ST→Int→Int→Prop} {cj:Int} (E:FoldEnv B rd 235 (fun v rl rh=>#[.int .i64 v,.int .i64 rl,.int .i64 rh]) C I R cj) {k:Nat}
  (ih:Hid (FoldSays B rd (.func (.func 235) #[] #[]) C I R cj k)) {w:World} {S:ST} {D:List (Int×Int)} (f v l h:Int) (hS0:gQA w B S) (hw:WF S) (hk:KOK S) (hi:I S) (hC:C w) (hD0:cQB eI eI w rd D) (hd:DOK R S D) (hno:get D f=none) (ht:get S.N f=some (v,l,h))
  (hlev:(S.n:Int) - S.lev f≤(k+1:Nat)) (hlim:S.next+fc cj (k+1)<lim) :
  Calls prog 210 #[.pointer (some ⟨B.b,0,none⟩),.int .i64 f,.map (some rd),.func (.func 235) #[] #[]] w (hQI B rd C I R cj w S f (k+1)):=by
 have hn:=hw.node f v l h ht;have hsep:=E.sep;have hl:=look71' hS0 ht;have hlk:=xQD (P:=prog) underlying146 key3 (z:=.int .i64 0) zero3 hD0 f true;simp only [hno,Option.map_none,Option.getD_none,eI,Option.isSome_none,if_true] at hlk;have c2:=hS0.head.cell 2;simp at c2;have Hlim:=hide hlim;have Hlev:=hide hlev;have Ht:=hide ht;have Hn:=hide hn;clear hlim hlev ht hn hno;go_enter func210,ntmps210
 go_wp2
 have hN:=cQA.new w #[.int .i64 v,.int .i64 l,.int .i64 h] 228;have hS:=hS0.alloc (.cells #[.int .i64 v,.int .i64 l,.int .i64 h] 228);have hK:=aQA.alloc (rd :: B.own) w (.cells #[.int .i64 v,.int .i64 l,.int .i64 h] 228);have hD:cQB eI eI _ rd D:=hD0.of_heap (Go.RowKit.Below.heap_alloc w (.cells #[.int .i64 v,.int .i64 l,.int .i64 h] 228) rd hD0.lt);have hC1:=E.keepC _ _ hC hK;have hne:w.heap.size∉rd :: B.own:=fun x=>by
  rcases List.mem_cons.1 x with e | x
  ·exact absurd hD0.lt (by rw [e];omega)
  ·exact Nat.lt_irrefl _ (hS0.lt _ x)
 clear hl hlk c2;generalize w.alloc (.cells #[.int .i64 v,.int .i64 l,.int .i64 h] 228)=W at hN hS hK hD hC1 ⊢;generalize w.heap.size=z at hN hne ⊢;have hC2:C W.drew:=E.keepC _ _ hC1 (aQA.drew _ _);have hD2:cQB eI eI W.drew rd D:=hD.of_heap rfl;have hN2:cQA W.drew z _:=hN.of_heap rfl;have hK2:=hK.trans (aQA.drew (rd :: B.own) W);have hS2:=hS.drew;have g0:=fQH hN;go_region_held3 (fun w'=>w'.cell? ⟨z,0,none⟩=some (.int .i64 v)∧w'.cell? ⟨z,1,none⟩=some (.int .i64 l)∧w'.cell? ⟨z,2,none⟩=some (.int .i64 h)) (first | exact fQH hN2 | exact fQH hN3 | exact fQH hN4 | exact fQH hN5)
  (first
   | (go_at_call_of 210 (Value.int IntKind.i64 l)
      refine (ih.out W.drew S D l hS2 hw hk hi hC2 hD2 hd Hn.out.2.2.2.2.2.1 ?_ ?_).mono ?_
      ·have:=Hlev.out;have:=Hn.out.2.2.2.2.2.2.2.1;rw [pQB hw Ht.out] at *;dsimp only at *;omega
      ·have:=Hlim.out;simp only [fc] at this;have:=zQJ E.cost k;have:=E.cost;omega
      rintro e W3 ⟨r0,S1,D1,rfl,hS3,hD3,k3,hC3,p0⟩;have hN3:=hN2.keeps k3 hne;have hK3:=hK2.trans k3)
   | (go_at_call_of 210 (Value.int IntKind.i64 h)
      refine (ih.out W3 S1 D1 h hS3 p0.wf p0.known p0.inv hC3 hD3 p0.dok (p0.ext.ok Hn.out.2.2.2.2.2.2.1) ?_ ?_).mono ?_
      ·rw [p0.ext.lev Hn.out.2.2.2.2.2.2.1,p0.ext.n];have:=Hlev.out;have:=Hn.out.2.2.2.2.2.2.2.2;rw [pQB hw Ht.out] at *;dsimp only at *;omega
      ·have:=Hlim.out;simp only [fc] at this;have:=p0.next;have:=E.cost;omega
      rintro e W4 ⟨r1,S2,D2,rfl,hS4,hD4,k4,hC4,p1⟩;have hN4:=hN3.keeps k4 hne;have hK4:=hK3.trans k4)
   | (go_at_call 235
      refine (E.join W4 S2 f v l h r0 r1 hS4 p1.wf p1.known p1.inv hC4 (p1.ext.node _ _ (p0.ext.node _ _ Ht.out)) (E.mono _ _ _ _ (p0.ext.ok Hn.out.2.2.2.2.2.1) p1.ext p0.wf p1.wf p0.inv p1.inv p0.rel) p1.rel ?_).mono ?_
      ·have:=Hlim.out;simp only [fc] at this;have:=p0.next;have:=p1.next;omega
      rintro e W5 ⟨r,S3,rfl,hS5,k5,x5,w5,kk5,i5,rel5,n5⟩;have k5':aQA (rd :: B.own) W4 W5:=k5.mono (fun i hi=>List.mem_cons_of_mem _ hi);have hN5:=hN4.keeps k5' hne;have hK5:=hK4.trans k5';have hC5:=E.keepC _ _ hC4 k5';have hD5:cQB eI eI W5 rd D2:=hD4.of_heap (k5.block rd hD4.lt hsep)))
 all_goals
  obtain ⟨o,hrun,hmm⟩:=wQG (P:=prog) underlying146 key3 hD5 f r;simp only [eI] at hrun;go_wp2
  go_ret
  refine ⟨r,S3,put D2 f r,rfl,hS5.of_heap (fun i hi=>iQB o (fun e=>hsep (e ▸ hi))),hmm,hK5.trans ((aQA.blk _ _ _).mono (by simp)),E.keepC _ _ hC5 ((aQA.blk _ _ _).mono (by simp)),?_⟩;exact vQI E.mono hw Ht.out p0 p1 x5 w5 kk5 i5 rel5 n5
theorem fold_says235 {B:SB} {rd:Nat} {C:World→Prop} {I:ST→Prop} {R:ST→Int→Int→Prop} {cj:Int} (E:FoldEnv B rd 235 (fun v rl rh=>#[.int .i64 v,.int .i64 rl,.int .i64 rh]) C I R cj):∀ k,FoldSays B rd (.func (.func 235) #[] #[]) C I R cj k:=by
 intro k;induction k with
 | zero=>
  intro w S D f hS hw hk hi hC hD hd okf hl hlim;have fl:¬ 2≤f:=fun x=>by have:=(wQB hw okf).2 x;omega
  have hs:(get D f).isSome=true:=by
   rcases okf with rfl | rfl | ⟨x,_⟩
   ·exact hd.zero
   ·exact hd.one
   ·exact absurd x fl
  obtain ⟨r,hr⟩:=Option.isSome_iff_exists.1 hs;exact cQI E.cost 0 hS hw hk hi hC hD hd hr
 | succ k ih=>
  intro w S D f hS hw hk hi hC hD hd okf hl hlim;cases hg:get D f with
  | some r=>exact cQI E.cost _ hS hw hk hi hC hD hd hg
  | none=>
   rcases okf with rfl | rfl | ⟨x,⟨v,l,h⟩,ht⟩
   ·have:=hd.zero;rw [hg] at this;cases this
   ·have:=hd.one;rw [hg] at this;cases this
   ·exact fold_step72 E (hide ih) f v l h hS hw hk hi hC hD hd hg ht hl hlim
end
section
open Go.RowKit
theorem fold_step67 {B:SB} {rd:Nat} {C:World→Prop} {I:ST→Prop} {R:ST→Int→Int→Prop} {cj:Int} {p q:Nat} (E:FoldEnv B rd 212 (fun v rl rh=>#[.int .i64 v,.int .i64 rl,.int .i64 rh,.pointer (some ⟨p,0,none⟩),.pointer (some ⟨q,0,none⟩)]) C I R cj) {k:Nat}
  (ih:Hid (FoldSays B rd (.func (.func 212) #[] #[.pointer (some ⟨p,0,none⟩),.pointer (some ⟨q,0,none⟩)]) C I R cj k)) {w:World} {S:ST} {D:List (Int×Int)} (f v l h:Int) (hS0:gQA w B S) (hw:WF S) (hk:KOK S) (hi:I S) (hC:C w) (hD0:cQB eI eI w rd D) (hd:DOK R S D) (hno:get D f=none) (ht:get S.N f=some (v,l,h))
  (hlev:(S.n:Int) - S.lev f≤(k+1:Nat)) (hlim:S.next+fc cj (k+1)<lim) :
  Calls prog 210 #[.pointer (some ⟨B.b,0,none⟩),.int .i64 f,.map (some rd),.func (.func 212) #[] #[.pointer (some ⟨p,0,none⟩),.pointer (some ⟨q,0,none⟩)]] w (hQI B rd C I R cj w S f (k+1)):=by
 have hn:=hw.node f v l h ht;have hsep:=E.sep;have hl:=look71' hS0 ht;have hlk:=xQD (P:=prog) underlying146 key3 (z:=.int .i64 0) zero3 hD0 f true;simp only [hno,Option.map_none,Option.getD_none,eI,Option.isSome_none,if_true] at hlk;have c2:=hS0.head.cell 2;simp at c2;have Hlim:=hide hlim;have Hlev:=hide hlev;have Ht:=hide ht;have Hn:=hide hn;clear hlim hlev ht hn hno;go_enter func210,ntmps210
 go_wp2
 have hN:=cQA.new w #[.int .i64 v,.int .i64 l,.int .i64 h] 228;have hS:=hS0.alloc (.cells #[.int .i64 v,.int .i64 l,.int .i64 h] 228);have hK:=aQA.alloc (rd :: B.own) w (.cells #[.int .i64 v,.int .i64 l,.int .i64 h] 228);have hD:cQB eI eI _ rd D:=hD0.of_heap (Go.RowKit.Below.heap_alloc w (.cells #[.int .i64 v,.int .i64 l,.int .i64 h] 228) rd hD0.lt);have hC1:=E.keepC _ _ hC hK;have hne:w.heap.size∉rd :: B.own:=fun x=>by
  rcases List.mem_cons.1 x with e | x
  ·exact absurd hD0.lt (by rw [e];omega)
  ·exact Nat.lt_irrefl _ (hS0.lt _ x)
 clear hl hlk c2;generalize w.alloc (.cells #[.int .i64 v,.int .i64 l,.int .i64 h] 228)=W at hN hS hK hD hC1 ⊢;generalize w.heap.size=z at hN hne ⊢;have hC2:C W.drew:=E.keepC _ _ hC1 (aQA.drew _ _);have hD2:cQB eI eI W.drew rd D:=hD.of_heap rfl;have hN2:cQA W.drew z _:=hN.of_heap rfl;have hK2:=hK.trans (aQA.drew (rd :: B.own) W);have hS2:=hS.drew;have g0:=fQH hN;go_region_held3 (fun w'=>w'.cell? ⟨z,0,none⟩=some (.int .i64 v)∧w'.cell? ⟨z,1,none⟩=some (.int .i64 l)∧w'.cell? ⟨z,2,none⟩=some (.int .i64 h)) (first | exact fQH hN2 | exact fQH hN3 | exact fQH hN4 | exact fQH hN5)
  (first
   | (go_at_call_of 210 (Value.int IntKind.i64 l)
      refine (ih.out W.drew S D l hS2 hw hk hi hC2 hD2 hd Hn.out.2.2.2.2.2.1 ?_ ?_).mono ?_
      ·have:=Hlev.out;have:=Hn.out.2.2.2.2.2.2.2.1;rw [pQB hw Ht.out] at *;dsimp only at *;omega
      ·have:=Hlim.out;simp only [fc] at this;have:=zQJ E.cost k;have:=E.cost;omega
      rintro e W3 ⟨r0,S1,D1,rfl,hS3,hD3,k3,hC3,p0⟩;have hN3:=hN2.keeps k3 hne;have hK3:=hK2.trans k3)
   | (go_at_call_of 210 (Value.int IntKind.i64 h)
      refine (ih.out W3 S1 D1 h hS3 p0.wf p0.known p0.inv hC3 hD3 p0.dok (p0.ext.ok Hn.out.2.2.2.2.2.2.1) ?_ ?_).mono ?_
      ·rw [p0.ext.lev Hn.out.2.2.2.2.2.2.1,p0.ext.n];have:=Hlev.out;have:=Hn.out.2.2.2.2.2.2.2.2;rw [pQB hw Ht.out] at *;dsimp only at *;omega
      ·have:=Hlim.out;simp only [fc] at this;have:=p0.next;have:=E.cost;omega
      rintro e W4 ⟨r1,S2,D2,rfl,hS4,hD4,k4,hC4,p1⟩;have hN4:=hN3.keeps k4 hne;have hK4:=hK3.trans k4)
   | (go_at_call 212
      refine (E.join W4 S2 f v l h r0 r1 hS4 p1.wf p1.known p1.inv hC4 (p1.ext.node _ _ (p0.ext.node _ _ Ht.out)) (E.mono _ _ _ _ (p0.ext.ok Hn.out.2.2.2.2.2.1) p1.ext p0.wf p1.wf p0.inv p1.inv p0.rel) p1.rel ?_).mono ?_
      ·have:=Hlim.out;simp only [fc] at this;have:=p0.next;have:=p1.next;omega
      rintro e W5 ⟨r,S3,rfl,hS5,k5,x5,w5,kk5,i5,rel5,n5⟩;have k5':aQA (rd :: B.own) W4 W5:=k5.mono (fun i hi=>List.mem_cons_of_mem _ hi);have hN5:=hN4.keeps k5' hne;have hK5:=hK4.trans k5';have hC5:=E.keepC _ _ hC4 k5';have hD5:cQB eI eI W5 rd D2:=hD4.of_heap (k5.block rd hD4.lt hsep)))
 all_goals
  obtain ⟨o,hrun,hmm⟩:=wQG (P:=prog) underlying146 key3 hD5 f r;simp only [eI] at hrun;go_wp2
  go_ret
  refine ⟨r,S3,put D2 f r,rfl,hS5.of_heap (fun i hi=>iQB o (fun e=>hsep (e ▸ hi))),hmm,hK5.trans ((aQA.blk _ _ _).mono (by simp)),E.keepC _ _ hC5 ((aQA.blk _ _ _).mono (by simp)),?_⟩;exact vQI E.mono hw Ht.out p0 p1 x5 w5 kk5 i5 rel5 n5
theorem fold_says212 {B:SB} {rd:Nat} {C:World→Prop} {I:ST→Prop} {R:ST→Int→Int→Prop} {cj:Int} {p q:Nat} (E:FoldEnv B rd 212 (fun v rl rh=>#[.int .i64 v,.int .i64 rl,.int .i64 rh,.pointer (some ⟨p,0,none⟩),.pointer (some ⟨q,0,none⟩)]) C I R cj):∀ k,FoldSays B rd (.func (.func 212) #[] #[.pointer (some ⟨p,0,none⟩),.pointer (some ⟨q,0,none⟩)]) C I R cj k:=by
 intro k;induction k with
 | zero=>
  intro w S D f hS hw hk hi hC hD hd okf hl hlim;have fl:¬ 2≤f:=fun x=>by have:=(wQB hw okf).2 x;omega
  have hs:(get D f).isSome=true:=by
   rcases okf with rfl | rfl | ⟨x,_⟩
   ·exact hd.zero
   ·exact hd.one
   ·exact absurd x fl
  obtain ⟨r,hr⟩:=Option.isSome_iff_exists.1 hs;exact cQI E.cost 0 hS hw hk hi hC hD hd hr
 | succ k ih=>
  intro w S D f hS hw hk hi hC hD hd okf hl hlim;cases hg:get D f with
  | some r=>exact cQI E.cost _ hS hw hk hi hC hD hd hg
  | none=>
   rcases okf with rfl | rfl | ⟨x,⟨v,l,h⟩,ht⟩
   ·have:=hd.zero;rw [hg] at this;cases this
   ·have:=hd.one;rw [hg] at this;cases this
   ·exact fold_step67 E (hide ih) f v l h hS hw hk hi hC hD hd hg ht hl hlim
end
section
open Go.RowKit
end
section
open Go.RowKit
theorem and_one (q:Int) (h0:0≤q) (h1:q<2 ^ 62):bits BinOp.and IntKind.i64 q 1=q % 2:=by
 have:=bits_mask .i64 62 (by decide) (fun n a b=>by rw [IntKind.wrap_i64];omega) 1 (by decide) q h0 h1;simpa using this
theorem div_pow_bounds {a:Int} (h0:0≤a) {b:Int} (h1:a<b) (n:Nat):0≤a / 2 ^ n∧a / 2 ^ n<b:=by
 have hp:(0:Int)<2 ^ n:=by exact_mod_cast Nat.two_pow_pos n
 refine ⟨Int.ediv_nonneg h0 (Int.le_of_lt hp),?_⟩;have:=Int.ediv_le_self (2 ^ n:Int) h0;omega
theorem bit_test {a v:Int} (h0:0≤a) (h1:a<4096):(bits BinOp.and IntKind.i64 (a / 2 ^ v.toNat) 1 == 1)=bitB a v:=by
 have:=div_pow_bounds h0 h1 v.toNat;rw [and_one _ this.1 (by omega)];rfl
theorem blk_alloc (W:World) (o o':Obj):blk (W.alloc o) W.heap.size o' = W.alloc o':=by
 unfold blk World.alloc;congr 1
 apply Array.ext_getElem?;intro i;by_cases h:i=W.heap.size
 ·subst h;simp
 ·have h2:¬ W.heap.size=i:=fun e=>h e.symm;rw [Array.getElem?_setIfInBounds,if_neg h2,Array.getElem?_push,Array.getElem?_push,if_neg h,if_neg h]
theorem ins_first (W:World) (r:Nat) (hr:r=W.heap.size) (k v:Int):(Instr.mapUpdate 146 (.map (some r)) (.int .i64 k) (.int .i64 v)).run prog (W.alloc (.map #[] 0)) =
  .ok () (W.alloc (.map #[{ key:=.int .i64 k,val:=.int .i64 v,born:=0 }] 1)):=by
 subst hr;have h1:(W.alloc (.map #[] 0)).heap[W.heap.size]?=some (.map #[] 0):=(MapKept.heap_alloc W _).1;have hf:=rQF (ev:=eI) key3 k (W.alloc (.map #[] 0)) [] [] rfl;have hs:=MapKept.run_setObj_map (P:=prog) (.map #[{ key:=.int .i64 k,val:=.int .i64 v,born:=0 }] 1) h1;simp only [eI] at hf;unfold Instr.mapUpdate;simp only [Sem.run_bind,run_underlying underlying146,Result.andThen_ok,MapKept.run_getObj_map h1,check3 false 9999,hf,spot];exact hs.trans (congrArg (Result.ok ()) (blk_alloc W _ _))
theorem ins_second (W:World) (r:Nat) (hr:r=W.heap.size) (k v k2 v2:Int) (hk:k≠k2) :
  (Instr.mapUpdate 146 (.map (some r)) (.int .i64 k2) (.int .i64 v2)).run prog (W.alloc (.map #[{ key:=.int .i64 k,val:=.int .i64 v,born:=0 }] 1)) =
  .ok () (W.alloc (.map #[{ key:=.int .i64 k,val:=.int .i64 v,born:=0 },{ key:=.int .i64 k2,val:=.int .i64 v2,born:=1 }] 2)):=by
 subst hr;have h1:(W.alloc (.map #[{ key:=.int .i64 k,val:=.int .i64 v,born:=0 }] 1)).heap[W.heap.size]?=some (.map #[{ key:=.int .i64 k,val:=.int .i64 v,born:=0 }] 1):=(MapKept.heap_alloc W _).1;have hf:=rQF (ev:=eI) key3 k2 (W.alloc (.map #[{ key:=.int .i64 k,val:=.int .i64 v,born:=0 }] 1)) [{ key:=.int .i64 k,val:=.int .i64 v,born:=0 }] [(k,v)] rfl;have hs:=MapKept.run_setObj_map (P:=prog) (.map #[{ key:=.int .i64 k,val:=.int .i64 v,born:=0 },{ key:=.int .i64 k2,val:=.int .i64 v2,born:=1 }] 2) h1;simp only [eI,spot,hk,if_false] at hf;unfold Instr.mapUpdate;simp only [Sem.run_bind,run_underlying underlying146,Result.andThen_ok,MapKept.run_getObj_map h1,check3 false 9999,hf];exact hs.trans (congrArg (Result.ok ()) (blk_alloc W _ _))
theorem ins_is (W:World) (k v k2 v2:Int) (hk:k≠k2):cQB eI eI (W.alloc (.map #[{ key:=.int .i64 k,val:=.int .i64 v,born:=0 },{ key:=.int .i64 k2,val:=.int .i64 v2,born:=1 }] 2)) W.heap.size [(k,v),(k2,v2)]:=
 ⟨_,_,(MapKept.heap_alloc W _).1,by simp [eI],by simp,by simp,by simp [hk]⟩
def ExC (B:SB) (p q:Nat) (X:Int) (w:World):Prop:=cQA w p #[.int .i64 X]∧cQA w q #[.pointer (some ⟨B.b,0,none⟩)]
structure RelPost (S S':ST) (R:ST→Int→Int→Prop) (f r c:Int):Prop where
 ext:Ext S S'
 wf:WF S'
 known:KOK S'
 rel:R S' f r
 next:S'.next≤S.next+c
def RelGives (B:SB) (w:World) (S:ST) (R:ST→Int→Int→Prop) (f c:Int) (e:Ending) (w':World):Prop:=
 ∃ r S',e=.returned (.int .i64 r)∧gQA w' B S'∧aQA B.own w w'∧RelPost S S' R f r c
theorem ex_join {B:SB} {w:World} {S:ST} {X:Int} {p q:Nat} (f v l h rl rh:Int) (hS:gQA w B S) (hw:WF S) (hk:KOK S) (hC:ExC B p q X w) (n8:S.n≤12) (x0:0≤X) (x1:X<4096) (ht:get S.N f=some (v,l,h)) (al:ExR X S l rl) (ah:ExR X S h rh) (hlim:S.next+(cst S.n+1)<lim) :
  Calls prog 212 #[.int .i64 v,.int .i64 rl,.int .i64 rh,.pointer (some ⟨p,0,none⟩),.pointer (some ⟨q,0,none⟩)] w fun e w'=>∃ r S',e=.returned (.int .i64 r)∧gQA w' B S'∧aQA B.own w w'∧Ext S S'∧WF S'∧KOK S'∧ExR X S' f r∧S'.next≤S.next+(cst S.n+1):=by
 have hc0:=tQD S.n;obtain ⟨x1',x2,v0,v1,x5,okl,okh,pll,plh⟩:=hw.node f v l h ht;have v8:v<12:=by omega
 have h5:=hC.1.cell 0;have h3:=hC.2.cell 0;simp at h5 h3;have hb:=bit_test (v:=v) x0 x1;cases hbit:bitB X v with
 | true=>
  rw [hbit] at hb;have hc:=hide (or_calls rl rh hS hw hk al.1 ah.1 (by omega));have Hbit:=hide hbit;have Ht:=hide ht;have Hlim:=hide hlim;clear hbit ht hlim hc0 x1' x2 x5 pll plh;go_enter func212,ntmps212
  go_wp2_with fail
  refine hc.out.mono ?_;rintro e w' ⟨r,S',rfl,hs,hkp,P⟩;go_wp2
  go_ret
  exact ⟨r,S',rfl,hs,hkp,P.ext,P.wf,P.known,ExR.bit hw P.wf P.ext Ht.out Hbit.out al ah P.ok P.den P.lev,by have:=P.next;omega⟩
 | false=>
  rw [hbit] at hb;have hl1:=al.2.1;have hl2:=ah.2.1;have hc:=hide (sQJ hS hw v rl rh v0 v1 al.1 ah.1 (fun _=>⟨by omega,by omega⟩) (by unfold lim at hlim;omega));have Hbit:=hide hbit;have Ht:=hide ht;have Hlim:=hide hlim;have Hc0:=hide hc0;clear hbit ht hlim hc0 x1' x2 x5 pll plh hl1 hl2;go_enter func212,ntmps212
  go_wp2_with fail
  refine hc.out.mono ?_;rintro e w' ⟨r,S',rfl,hs,hkp,P⟩;go_wp2
  go_ret
  exact ⟨r,S',rfl,hs,hkp,P.ext,P.wf,hk.ext P.ext hw P.wf P.known,ExR.keep hw Ht.out Hbit.out al ah P,by have:=P.next;have:=Hc0.out;omega⟩
end
section
open Go.RowKit
theorem exists_env (B:SB) (rd p q n:Nat) (X:Int) (n8:n≤12) (x0:0≤X) (x1:X<4096) (hr:rd∉B.own) (hp:p∉rd :: B.own) (hq:q∉rd :: B.own) :
  FoldEnv B rd 212 (fun v rl rh=>#[.int .i64 v,.int .i64 rl,.int .i64 rh,.pointer (some ⟨p,0,none⟩),.pointer (some ⟨q,0,none⟩)]) (ExC B p q X) (fun S=>S.n=n) (ExR X) (cst n+1) where
 sep:=hr
 keepC w w' h k:=⟨h.1.keeps k hp,h.2.keeps k hq⟩
 mono S S' f r okf x hw hw' _ _ h:=ExR.mono S S' f r okf x hw hw' h
 cost:=by have:=tQD n;omega
 join w S f v l h rl rh hS hw hk hi hC ht al ah hlim:=by
  subst hi;exact (ex_join f v l h rl rh hS hw hk hC n8 x0 x1 ht al ah hlim).mono fun e w' ⟨r,S',a1,a2,a3,a4,a5,a6,a7,a8⟩=>⟨r,S',a1,a2,a3,a4,a5,a6,a4.n,a7,a8⟩
attribute [local go_sem] ins_first ins_second
theorem gQA.fresh {w:World} {B:SB} {S:ST} (h:gQA w B S) {i:Nat} (hi:w.heap.size≤i):i∉B.own:=fun x=>by have:=h.lt _ x;omega
theorem xQA {i j:Nat} {l:List Nat} (h:i≠j) (k:i∉l):i∉j :: l:=fun x=>(List.mem_cons.1 x).elim h k
theorem size_alloc (w:World) (o:Obj):(w.alloc o).heap.size=w.heap.size+1:=by simp
theorem exists_calls {B:SB} {w:World} {S:ST} (f X:Int) (hS:gQA w B S) (hw:WF S) (hk:KOK S) (okf:S.ok f) (n8:S.n≤12) (x0:0≤X) (x1:X<4096) (hlim:S.next+fc (cst S.n+1) S.n<lim) :
  Calls prog 147 #[.pointer (some ⟨B.b,0,none⟩),.int .i64 f,.int .i64 X] w (RelGives B w S (ExR X) f (fc (cst S.n+1) S.n)):=by
 have hmm:=@run_makeMap prog;have E:=exists_env B (w.heap.size+1+1) (w.heap.size+1) w.heap.size S.n X n8 x0 x1 (hS.fresh (by omega)) (xQA (by omega) (hS.fresh (by omega))) (xQA (by omega) (hS.fresh (by omega)));have hc:=hide (fold_says212 E S.n);have Hlim:=hide hlim;clear hlim E;go_enter func147,ntmps147
 go_wp2_with fail
 have s1:=size_alloc w (.cells #[.pointer (some ⟨B.b,0,none⟩)] 135);have s2:=size_alloc (w.alloc (.cells #[.pointer (some ⟨B.b,0,none⟩)] 135)) (.cells #[.int .i64 X] 3);have a1:=cQA.new w #[.pointer (some ⟨B.b,0,none⟩)] 135;have a2:=cQA.new (w.alloc (.cells #[.pointer (some ⟨B.b,0,none⟩)] 135)) #[.int .i64 X] 3;have a3:=ins_is ((w.alloc (.cells #[.pointer (some ⟨B.b,0,none⟩)] 135)).alloc (.cells #[.int .i64 X] 3)) 0 0 1 1 (by decide);have k1:=aQA.alloc [] w (.cells #[.pointer (some ⟨B.b,0,none⟩)] 135);have k2:=aQA.alloc [] (w.alloc (.cells #[.pointer (some ⟨B.b,0,none⟩)] 135)) (.cells #[.int .i64 X] 3);have k3:=aQA.alloc [] ((w.alloc (.cells #[.pointer (some ⟨B.b,0,none⟩)] 135)).alloc (.cells #[.int .i64 X] 3)) (.map #[{ key:=.int .i64 0,val:=.int .i64 0,born:=0 },{ key:=.int .i64 1,val:=.int .i64 1,born:=1 }] 2);have b1:=(a1.keeps k2 (by simp)).keeps k3 (by simp);have b2:=a2.keeps k3 (by simp);rw [s1] at b2 s2;rw [s2] at a3;have kk:=(k1.trans k2).trans k3;have hS3:=hS.keeps kk (by simp);refine (hc.out _ S [(0,0),(1,1)] f hS3 hw hk rfl ⟨b2,b1⟩ a3 ⟨?_,rfl,rfl⟩ okf ?_ Hlim.out).mono ?_
 ·intro g r hg;have hm:=tQE hg;simp only [List.mem_cons,Prod.mk.injEq,List.not_mem_nil,or_false] at hm;rcases hm with ⟨rfl,rfl⟩ | ⟨rfl,rfl⟩
  ·exact ⟨yQE S,ExR.const X S (.inl rfl)⟩
  ·exact ⟨qQJ S,ExR.const X S (.inr rfl)⟩
 ·have:=(pQA hw okf).1;omega
 rintro e w' ⟨r,S',D',rfl,hs,hd,hkp,hC',p⟩;go_wp2
 go_ret
 refine ⟨r,S',rfl,hs,(kk.mono (by simp)).trans_new hkp ?_,p.ext,p.wf,p.known,p.rel,p.next⟩;intro i hi;rcases List.mem_cons.1 hi with e | x
 ·exact .inr (by omega)
 ·exact .inl x
end
section
open Go.RowKit
theorem nvars_calls {B:SB} {w:World} {S:ST} (hS:gQA w B S):Calls prog 143 #[.pointer (some ⟨B.b,0,none⟩)] w fun e w'=>e=.returned (.int .i64 S.n)∧w' = w:=by
 have c0:=hS.head.cell 0;simp at c0;go_enter func143,ntmps143
 go_wp2
 go_ret
 exact ⟨rfl,rfl⟩
attribute [local go_sem] ins_first ins_second
def asg (a:Int):Int→Bool:=fun v=>bitB a v
theorem eval_calls {B:SB} {w:World} {S:ST} (f a:Int) (hS:gQA w B S) (hw:WF S) (okf:S.ok f) (n8:S.n≤12) (a0:0≤a) (a1:a<4096) :
  Calls prog 85 #[.pointer (some ⟨B.b,0,none⟩),.int .i64 f,.int .i64 a] w fun e w'=>e=.returned (.bool (S.den f (asg a)))∧aQA [] w w':=by
 go_enter func85,ntmps85
 go_wp2
 go_loopw [1] (fun t wr=>∃ g:Int,t=.int .i64 g∧S.ok g∧S.den g (asg a)=S.den f (asg a)∧aQA [] w wr) (fun t _=>((S.n:Int) - S.lev (intOf t)).toNat)
 case atStart=>exact ⟨f,rfl,okf,rfl,aQA.refl _ _⟩
 case round=>
  obtain ⟨g,rfl,okg,hden,hkp⟩:=hrel;have Hden:=hide hden;clear hden;have hSr:=hS.keeps hkp (by simp);by_cases hg:1<g
  ·have okg':=okg;rcases okg' with rfl | rfl | ⟨g2,⟨v,l,h⟩,ht⟩
   ·omega
   ·omega
   obtain ⟨x1,x2,v0,v1,x5,okl,okh,pll,plh⟩:=hw.node g v l h ht;have v8:v<12:=(by omega);have hl:=look71' hSr ht;have c2:=hSr.head.cell 2;simp at c2;have hb:=bit_test (v:=v) a0 a1;have Ht:=hide ht;have Hpl:=hide pll;have Hph:=hide plh;clear ht x1 x2 x5 pll plh;cases hbit:bitB a v with
   | true=>
    rw [hbit] at hb;have Hbit:=hide hbit;clear hbit;go_wp2
    go_roundw
    case rel=>exact ⟨h,rfl,okh,by rw [←Hden.out,mQB hw Ht.out];simp [asg,Hbit.out],hkp.trans (aQA.alloc _ _ _)⟩
    case measure=>simp only [intOf];have:=Hph.out;have:=pQA hw okh;rw [pQB hw Ht.out];dsimp only;omega
   | false=>
    rw [hbit] at hb;have Hbit:=hide hbit;clear hbit;go_wp2
    go_roundw
    case rel=>exact ⟨l,rfl,okl,by rw [←Hden.out,mQB hw Ht.out];simp [asg,Hbit.out],hkp.trans (aQA.alloc _ _ _)⟩
    case measure=>simp only [intOf];have:=Hpl.out;have:=pQA hw okl;rw [pQB hw Ht.out];dsimp only;omega
  ·have hg1:g≤1:=(by omega);have hd:decide (1<g)=false:=by simp;omega
   clear hg;go_wp2
   go_ret
   refine ⟨?_,hkp⟩;have e:(g == 1)=S.den f (asg a):=by
    rw [←Hden.out];rcases okg with rfl | rfl | ⟨g2,_⟩
    ·rw [eQB];rfl
    ·rw [pQC];rfl
    ·omega
   rw [e];rfl
end
end Go.Proofs.YtgjomknpjigkhaaGreatDoor
