import Derived.Test.YtgjomknpjigkhaaGreatDoorY00
import Derived.Test.YtgjomknpjigkhaaGreatDoorProg
import Derived.Maps.OwnSet
import Derived.Maps.RangeWalk
import Derived.WalkKit
import Derived.WalkLawsBesides
import Derived.BigQuiet
import Derived.Maps.AppendAt
import Derived.WalkSpells
namespace Go.Proofs.YtgjomknpjigkhaaGreatDoor
open Go.Proofs.Tryz
set_option maxRecDepth 100000
set_option maxHeartbeats 4000000
section
section
variable {α β:Type} [DecidableEq α]
def DH (L:List (α×β)) (k:α):Option β:=(L.find? (fun p=>decide (p.1=k))).map Prod.snd
def put (L:List (α×β)) (k:α) (v:β):List (α×β):=
 if (DH L k).isSome then L.map (fun p=>if p.1=k then (k,v) else p) else L++[(k,v)]
def del (L:List (α×β)) (k:α):List (α×β):=L.filter (fun p=>decide (p.1≠k))
theorem JY (k:α):DH ([]:List (α×β)) k=none:=rfl
theorem EZ (p:α×β) (L:List (α×β)) (k:α):DH (p :: L) k=if p.1=k then some p.2 else DH L k:=by
 unfold DH;by_cases h:p.1=k <;> simp [h]
theorem JX {L:List (α×β)} {k:α}:DH L k=none↔∀ p∈L,p.1≠k:=by
 induction L with
 | nil=>simp [JY]
 | cons p L ih=>
  rw [EZ];by_cases h:p.1=k
  ·simp [h]
  ·simp [h,ih]
theorem FK {L:List (α×β)} {k:α} {v:β} (h:DH L k=some v):(k,v)∈L:=by
 induction L with
 | nil=>simp [JY] at h
 | cons p L ih=>
  rw [EZ] at h;by_cases hp:p.1=k
  ·simp [hp] at h;subst h;subst hp;simp
  ·simp [hp] at h;exact AO _ (ih h)
theorem Wn {L:List (α×β)} (hn:(L.map Prod.fst).Nodup) {k:α} {v:β} (h:(k,v)∈L):DH L k=some v:=by
 induction L with
 | nil=>simp at h
 | cons p L ih=>
  rw [EZ];simp only [A0,B9] at hn;rcases AJ.1 h with rfl | h
  ·simp
  ·have:p.1≠k:=fun e=>hn.1 (by rw [e];exact AR.2 ⟨_,h,rfl⟩);simp [this,ih hn.2 h]
theorem Wo (L M:List (α×β)) (k:α):DH (L++M) k=(DH L k).or (DH M k):=by
 induction L with
 | nil=>simp [JY]
 | cons p L ih=>
  rw [A6,EZ,EZ,ih];by_cases h:p.1=k <;> simp [h]
theorem GZ (L:List (α×β)) (k:α) (v:β) (k':α):DH (put L k v) k' = if k' = k then some v else DH L k':=by
 unfold put;cases hk:(DH L k).isSome with
 | true=>
  simp only [if_true];have key:∀ M:List (α×β),DH (M.map (fun p=>if p.1=k then (k,v) else p)) k' = if k' = k then (if (DH M k).isSome then some v else none) else DH M k':=by
   intro M;induction M with
   | nil=>simp [JY]
   | cons p M ih=>
    rw [A0,EZ,ih,EZ,EZ];by_cases hp:p.1=k
    ·simp only [hp,if_true];by_cases hkk:k=k'
     ·subst hkk;simp
     ·have:¬ k' = k:=fun e=>hkk e.symm;simp [hkk,this]
    ·simp only [hp,if_false];by_cases hpk:p.1=k'
     ·have:¬ k' = k:=fun e=>hp (hpk.trans e);simp [hpk,this]
     ·simp [hpk]
  rw [key L];simp [hk]
 | false=>
  simp only [BT,if_false];rw [Wo,EZ,JY];have hn:DH L k=none:=by simpa using hk
  by_cases h:k' = k
  ·subst h;simp [hn]
  ·have:¬ k=k':=fun e=>h e.symm;simp [h,this]
theorem X6 (L:List (α×β)) (k k':α):DH (del L k) k' = if k' = k then none else DH L k':=by
 unfold del;induction L with
 | nil=>simp [JY]
 | cons p L ih=>
  by_cases hp:p.1=k
  ·rw [BC (by simp [hp]),ih,EZ];by_cases h:k' = k
   ·simp [h]
   ·have:¬ p.1=k':=fun e=>h (e.symm.trans hp);simp [h,this]
  ·rw [BB (by simp [hp]),EZ,ih,EZ];by_cases h:p.1=k'
   ·have:¬ k' = k:=fun e=>hp (h.trans e);simp [h,this]
   ·simp [h]
theorem dD (L:List (α×β)) (k:α) (v:β):(put L k v).map Prod.fst=if (DH L k).isSome then L.map Prod.fst else L.map Prod.fst++[k]:=by
 unfold put;cases (DH L k).isSome with
 | true=>
  simp only [if_true,C8];apply CV;intro p _;by_cases h:p.1=k <;> simp [h]
 | false=>simp
theorem Q1 {L:List (α×β)} (hn:(L.map Prod.fst).Nodup) (k:α) (v:β):((put L k v).map Prod.fst).Nodup:=by
 rw [dD];cases hk:(DH L k).isSome with
 | true=>simpa using hn
 | false=>
  have h0:DH L k=none:=by simpa using hk
  simp only [BT,if_false];rw [BN];refine ⟨hn,by simp,fun a ha b hb=>?_⟩;simp only [AG] at hb;subst hb;obtain ⟨p,hp,rfl⟩:=AR.1 ha;exact JX.1 h0 p hp
theorem Q3 {L:List (α×β)} (hn:(L.map Prod.fst).Nodup) (k:α):((del L k).map Prod.fst).Nodup:=
 List.Nodup.sublist (List.Sublist.map _ List.filter_sublist) hn
theorem O8 {L:List (α×β)} {k:α} (v:β) (h:DH L k=none):(put L k v).length=L.length+1:=by
 unfold put;simp [h]
theorem R3 {L:List (α×β)} (hn:(L.map Prod.fst).Nodup) {a:α} {v:β} {j:Nat} (v':β) (hj:L[j]?=some (a,v)) :
  L.map (fun p=>if p.1=a then (a,v') else p)=L.set j (a,v'):=by
 induction L generalizing j with
 | nil=>simp at hj
 | cons p L ih=>
  simp only [A0,B9] at hn;cases j with
  | zero=>
   simp only [List.getElem?_cons_zero,BH] at hj;subst hj;simp only [A0,if_true,AK,CM,true_and];conv=>rhs;rw [←List.map_id L]
   apply CV;intro q hq;have:q.1≠a:=fun e=>hn.1 (by rw [←e];exact AR.2 ⟨_,hq,rfl⟩);simp [this]
  | succ j=>
   simp only [List.getElem?_cons_succ] at hj;have:p.1≠a:=fun e=>hn.1 (by rw [e];exact AR.2 ⟨_,AF hj,rfl⟩);simp only [A0,this,if_false,AH,ih hn.2 hj]
theorem PW {L:List (α×β)} (hn:(L.map Prod.fst).Nodup) {a:α} {v:β} {j:Nat} (hj:L[j]?=some (a,v)):del L a=L.eraseIdx j:=by
 unfold del;induction L generalizing j with
 | nil=>simp at hj
 | cons p L ih=>
  simp only [A0,B9] at hn;cases j with
  | zero=>
   simp only [List.getElem?_cons_zero,BH] at hj;subst hj;rw [BC (by simp),List.eraseIdx_cons_zero,Ds];intro q hq;have:q.1≠a:=fun e=>hn.1 (by rw [←e];exact AR.2 ⟨_,hq,rfl⟩);simpa using this
  | succ j=>
   simp only [List.getElem?_cons_succ] at hj;have:p.1≠a:=fun e=>hn.1 (by rw [e];exact AR.2 ⟨_,AF hj,rfl⟩);rw [BB (by simpa using this),List.eraseIdx_cons_succ,ih hn.2 hj]
theorem PX {L:List (α×β)} {a:α} (h:DH L a=none):del L a=L:=by
 unfold del;rw [Ds];intro q hq;simpa using JX.1 h q hq
end
abbrev GW:=Int×Int×Int
structure ST where
 order:List Int
 place:List Int
 N:List (Int×GW)
 U:List (GW×Int)
 next:Int
 K:List (GW×Int)
def ST.n (S:ST):Nat:=S.order.length
def ST.pl (S:ST) (v:Int):Int:=(S.place[v.toNat]?).getD 0
def ST.lev (S:ST) (f:Int):Int:=if f≤1 then S.n else match DH S.N f with | some t=>S.pl t.1 | none=>0
def ST.ok (S:ST) (f:Int):Prop:=f=0∨f=1∨(2≤f∧∃ t,DH S.N f=some t)
structure YJ (order place:List Int):Prop where
 len:place.length=order.length
 op:∀ (i:Nat) (v:Int),order[i]?=some v→0≤v∧v<order.length∧place[v.toNat]?=some (i:Int)
 po:∀ (v:Nat) (p:Int),place[v]?=some p→0≤p∧p<order.length∧order[p.toNat]?=some (v:Int)
structure WF (S:ST):Prop where
 ord:YJ S.order S.place
 two:2≤S.next
 node:∀ f v l h,DH S.N f=some (v,l,h)→2≤f∧f<S.next∧0≤v∧v<S.n∧l≠h∧S.ok l∧S.ok h∧S.pl v<S.lev l∧S.pl v<S.lev h
 inv:∀ t f,DH S.U t=some f↔DH S.N f=some t
def ev (N:List (Int×GW)):Nat→Int→(Int→Bool)→Bool
 | 0,f,_=>decide (f=1)
 | k+1,f,σ=>if f≤1 then decide (f=1) else match DH N f with
  | none=>false
  | some t=>if σ t.1 then ev N k t.2.2 σ else ev N k t.2.1 σ
def ST.den (S:ST) (f:Int) (σ:Int→Bool):Bool:=ev S.N S.n f σ
section
variable {S:ST}
theorem WF.pl_range (h:WF S) {v:Int} (h0:0≤v) (h1:v<S.n):0≤S.pl v∧S.pl v<S.n∧S.order[(S.pl v).toNat]?=some v∧S.place[v.toNat]?=some (S.pl v):=by
 have hl:v.toNat<S.place.length:=by rw [h.ord.len];unfold ST.n at h1;omega
 have e:S.place[v.toNat]?=some (S.place[v.toNat]):=AB hl;obtain ⟨a,b,c⟩:=h.ord.po _ _ e;have ep:S.pl v=S.place[v.toNat]:=by unfold ST.pl;rw [e];rfl
 rw [ep];refine ⟨a,b,?_,e⟩;rw [c];congr 1;omega
theorem WF.pl_inj (h:WF S) {u v:Int} (u0:0≤u) (u1:u<S.n) (v0:0≤v) (v1:v<S.n) (e:S.pl u=S.pl v):u=v:=by
 obtain ⟨_,_,a,_⟩:=h.pl_range u0 u1;obtain ⟨_,_,b,_⟩:=h.pl_range v0 v1;rw [e,b] at a;exact (As a).symm
theorem E4 {f:Int} (h:f≤1):S.lev f=S.n:=by simp [ST.lev,h]
theorem Cf (hw:WF S) {f:Int} {t:GW} (h:DH S.N f=some t):S.lev f=S.pl t.1:=by
 obtain ⟨v,l,r⟩:=t;have:=(hw.node f v l r h).1;have:¬ f≤1:=by omega
 simp [ST.lev,this,h]
theorem Bb (hw:WF S) {f:Int} (h:S.ok f):0≤S.lev f∧S.lev f≤S.n:=by
 rcases h with rfl | rfl | ⟨_,t,ht⟩
 ·rw [E4 (by omega)];omega
 ·rw [E4 (by omega)];omega
 ·rw [Cf hw ht];obtain ⟨v,l,r⟩:=t;obtain ⟨_,_,a,b,_⟩:=hw.node f v l r ht;have:=hw.pl_range a b;dsimp only;exact ⟨this.1,by omega⟩
theorem DJ (hw:WF S) {f:Int} (h:S.ok f):S.lev f<S.n↔2≤f:=by
 rcases h with rfl | rfl | ⟨h2,t,ht⟩
 ·rw [E4 (by omega)];omega
 ·rw [E4 (by omega)];omega
 ·rw [Cf hw ht];obtain ⟨v,l,r⟩:=t;obtain ⟨_,_,a,b,_⟩:=hw.node f v l r ht;have:=hw.pl_range a b;exact ⟨fun _=>h2,fun _=>this.2.1⟩
theorem MS (hw:WF S):∀ (k:Nat) (f:Int) (σ:Int→Bool),S.ok f→(S.n:Int) - S.lev f≤k→ev S.N (k+1) f σ=ev S.N k f σ
 | 0,f,σ,hf,hk=>by
  rcases hf with rfl | rfl | ⟨h2,t,ht⟩
  ·simp [ev]
  ·simp [ev]
  ·exfalso;have:=(DJ hw (.inr (.inr ⟨h2,t,ht⟩))).2 h2;omega
 | k+1,f,σ,hf,hk=>by
  rcases hf with rfl | rfl | ⟨h2,t,ht⟩
  ·simp [ev]
  ·simp [ev]
  ·have h1:¬ f≤1:=(by omega);obtain ⟨v,l,r⟩:=t;have hn:=hw.node f v l r ht;rw [Cf hw ht] at hk;dsimp only at hk;rw [ev,ev];simp only [h1,if_false,ht];rw [MS hw k r σ hn.2.2.2.2.2.2.1 (by omega),MS hw k l σ hn.2.2.2.2.2.1 (by omega)]
theorem Zj (hw:WF S) {k:Nat} {f:Int} (σ:Int→Bool) (hf:S.ok f) (hk:(S.n:Int) - S.lev f≤k):∀ (m:Nat),ev S.N (k+m) f σ=ev S.N k f σ
 | 0=>rfl
 | m+1=>by rw [←Nat.add_assoc,MS hw (k+m) f σ hf (by omega),Zj hw σ hf hk m]
theorem CF (σ:Int→Bool):S.den 0 σ=false:=by unfold ST.den;cases S.n <;> simp [ev]
theorem Da (σ:Int→Bool):S.den 1 σ=true:=by unfold ST.den;cases S.n <;> simp [ev]
theorem Cd (hw:WF S) {f v l h:Int} (ht:DH S.N f=some (v,l,h)) (σ:Int→Bool):S.den f σ=if σ v then S.den h σ else S.den l σ:=by
 have hn:=hw.node f v l h ht;have hp:=hw.pl_range hn.2.2.1 hn.2.2.2.1;have h1:¬ f≤1:=by omega
 unfold ST.den;obtain ⟨m,hm⟩:∃ m,S.n=m+1:=⟨S.n - 1,by omega⟩;have el:ev S.N S.n l σ=ev S.N m l σ:=by rw [hm];exact MS hw m l σ hn.2.2.2.2.2.1 (by omega)
 have eh:ev S.N S.n h σ=ev S.N m h σ:=by rw [hm];exact MS hw m h σ hn.2.2.2.2.2.2.1 (by omega)
 rw [el,eh,hm,ev];simp only [h1,if_false,ht]
theorem Na (hw:WF S) {p:Int→Prop} (p0:p 0) (p1:p 1) (step:∀ f v l h,DH S.N f=some (v,l,h)→S.ok l→S.ok h→p l→p h→p f):∀ f,S.ok f→p f:=by
 have key:∀ (m:Nat) (f:Int),S.ok f→(S.n:Int) - S.lev f≤m→p f:=by
  intro m;induction m with
  | zero=>
   intro f hf hm;rcases hf with rfl | rfl | ⟨h2,t,ht⟩
   ·exact p0
   ·exact p1
   ·exfalso;have:=(DJ hw (.inr (.inr ⟨h2,t,ht⟩))).2 h2;omega
  | succ m ih=>
   intro f hf hm;rcases hf with rfl | rfl | ⟨h2,t,ht⟩
   ·exact p0
   ·exact p1
   ·obtain ⟨v,l,h⟩:=t;have hn:=hw.node f v l h ht;rw [Cf hw ht] at hm;dsimp only at hm;exact step f v l h ht hn.2.2.2.2.2.1 hn.2.2.2.2.2.2.1 (ih l hn.2.2.2.2.2.1 (by omega)) (ih h hn.2.2.2.2.2.2.1 (by omega))
 intro f hf;exact key S.n f hf (by have:=(Bb hw hf).1;omega)
theorem RE (hw:WF S) {f:Int} (hf:S.ok f):∀ (σ τ:Int→Bool),(∀ v:Int,0≤v→v<S.n→S.lev f≤S.pl v→σ v=τ v)→S.den f σ=S.den f τ:=by
 refine Na hw (p:=fun f=>∀ (σ τ:Int→Bool),(∀ v:Int,0≤v→v<S.n→S.lev f≤S.pl v→σ v=τ v)→S.den f σ=S.den f τ) ?_ ?_ ?_ f hf
 ·intro σ τ _;rw [CF,CF]
 ·intro σ τ _;rw [Da,Da]
 ·intro f v l h ht hl hh il ih σ τ hst;have hn:=hw.node f v l h ht;rw [Cf hw ht] at hst;dsimp only at hst;rw [Cd hw ht,Cd hw ht,hst v hn.2.2.1 hn.2.2.2.1 (Co _)];rw [ih σ τ (fun u u0 u1 u2=>hst u u0 u1 (by omega)),il σ τ (fun u u0 u1 u2=>hst u u0 u1 (by omega))]
def LJ (σ:Int→Bool) (v:Int) (b:Bool):Int→Bool:=fun u=>if u=v then b else σ u
theorem CS (hw:WF S) {f v:Int} (hf:S.ok f) (v0:0≤v) (v1:v<S.n) (hv:S.pl v<S.lev f) (σ:Int→Bool) (b:Bool):S.den f (LJ σ v b)=S.den f σ:=
 RE hw hf _ _ fun u u0 u1 u2=>by
  have:u≠v:=fun e=>by subst e;omega
  simp [LJ,this]
theorem canon (hw:WF S):∀ (m:Nat) (f g:Int),S.ok f→S.ok g→(S.n:Int) - S.lev f≤m∧(S.n:Int) - S.lev g≤m→(∀ σ,S.den f σ=S.den g σ)→f=g:=by
 intro m;induction m with
 | zero=>
  intro f g hf hg hm he;have a:=Bb hw hf;have b:=Bb hw hg;have f2:¬ 2≤f:=fun h=>by have:=(DJ hw hf).2 h;omega
  have g2:¬ 2≤g:=fun h=>by have:=(DJ hw hg).2 h;omega
  have:=he (fun _=>true);rcases hf with rfl | rfl | ⟨h2,_⟩
  ·rcases hg with rfl | rfl | ⟨h2,_⟩
   ·rfl
   ·rw [CF,Da] at this;cases this
   ·exact absurd h2 g2
  ·rcases hg with rfl | rfl | ⟨h2,_⟩
   ·rw [CF,Da] at this;cases this
   ·rfl
   ·exact absurd h2 g2
  ·exact absurd h2 f2
 | succ m ih=>
  intro f g hf hg hm he;have a:=Bb hw hf;have b:=Bb hw hg;have strict:∀ f g,S.ok f→S.ok g→S.lev f<S.lev g→(S.n:Int) - S.lev f≤m+1∧(S.n:Int) - S.lev g≤m+1→(∀ σ,S.den f σ=S.den g σ)→False:=by
   intro f g hf hg hlt hm he;have b:=Bb hw hg;have f2:=(DJ hw hf).1 (by omega);rcases hf with rfl | rfl | ⟨_,t,ht⟩
   ·omega
   ·omega
   ·obtain ⟨v,l,h⟩:=t;have hn:=hw.node f v l h ht;rw [Cf hw ht] at hlt hm;dsimp only at hlt hm;obtain ⟨_,_,v0,v1,lh,okl,okh,pll,plh⟩:=hn;have hll:=Bb hw okl;have hlh:=Bb hw okh;refine lh (ih l h okl okh (by omega) fun σ=>?_);have e1:=he (LJ σ v false);have e2:=he (LJ σ v true);rw [Cd hw ht,CS hw hg v0 v1 hlt] at e1 e2;rw [show LJ σ v false v=false by simp [LJ]] at e1;rw [show LJ σ v true v=true by simp [LJ],if_pos rfl] at e2;have e3:=CS hw okl v0 v1 pll σ false;have e4:=CS hw okh v0 v1 plh σ true;simp only [BT,if_false] at e1;rw [e3] at e1;rw [e4] at e2;rw [e1,e2]
  rcases Int.lt_trichotomy (S.lev f) (S.lev g) with hlt | heq | hgt
  ·exact (strict f g hf hg hlt hm he).elim
  ·by_cases f2:2≤f
   ·have hfl:=(DJ hw hf).2 f2;have g2:=(DJ hw hg).1 (by omega);rcases hf with rfl | rfl | ⟨_,t,ht⟩
    ·omega
    ·omega
    rcases hg with rfl | rfl | ⟨_,u,hu⟩
    ·omega
    ·omega
    obtain ⟨v,l,h⟩:=t;obtain ⟨v',l',h'⟩:=u;have hn:=hw.node f v l h ht;have hn':=hw.node g v' l' h' hu;rw [Cf hw ht,Cf hw hu] at heq;rw [Cf hw ht,Cf hw hu] at hm;dsimp only at heq hm;obtain ⟨_,_,v0,v1,lh,okl,okh,pll,plh⟩:=hn;obtain ⟨_,_,v0',v1',lh',okl',okh',pll',plh'⟩:=hn';have ev:=hw.pl_inj v0 v1 v0' v1' heq;subst ev;have hll:=Bb hw okl;have hlh:=Bb hw okh;have hll':=Bb hw okl';have hlh':=Bb hw okh';have el:l=l':=ih l l' okl okl' (by omega) fun σ=>by
     have e1:=he (LJ σ v false);rw [Cd hw ht,Cd hw hu] at e1;have e3:=CS hw okl v0 v1 pll σ false;have e4:=CS hw okl' v0 v1 pll' σ false;rw [←e3,←e4];simpa [LJ] using e1
    have eh:h=h':=ih h h' okh okh' (by omega) fun σ=>by
     have e1:=he (LJ σ v true);rw [Cd hw ht,Cd hw hu] at e1;have e3:=CS hw okh v0 v1 plh σ true;have e4:=CS hw okh' v0 v1 plh' σ true;rw [←e3,←e4];simpa [LJ] using e1
    subst el;subst eh;have i1:=(hw.inv _ _).2 ht;have i2:=(hw.inv _ _).2 hu;rw [i1] at i2;exact As i2
   ·have g2:¬ 2≤g:=fun h=>by
     have:=(DJ hw hg).2 h;have:=(DJ hw hf).1 (by omega);omega
    have:=he (fun _=>true);rcases hf with rfl | rfl | ⟨h2,_⟩
    ·rcases hg with rfl | rfl | ⟨h2,_⟩
     ·rfl
     ·rw [CF,Da] at this;cases this
     ·exact absurd h2 g2
    ·rcases hg with rfl | rfl | ⟨h2,_⟩
     ·rw [CF,Da] at this;cases this
     ·rfl
     ·exact absurd h2 g2
    ·exact absurd h2 f2
  ·exact (strict g f hg hf hgt (by omega) fun σ=>(he σ).symm).elim
theorem YB (hw:WF S) {f g:Int} (hf:S.ok f) (hg:S.ok g) (he:∀ σ,S.den f σ=S.den g σ):f=g:=
 canon hw S.n f g hf hg ⟨by have:=(Bb hw hf).1;omega,by have:=(Bb hw hg).1;omega⟩ he
structure Sub (S S':ST):Prop where
 order:S'.order=S.order
 place:S'.place=S.place
 next:S.next≤S'.next
 node:∀ f t,DH S.N f=some t→DH S'.N f=some t
theorem Sub.refl (S:ST):Sub S S:=⟨rfl,rfl,Co _,fun _ _ h=>h⟩
theorem Sub.trans {A B C:ST} (h:Sub A B) (k:Sub B C):Sub A C:=⟨k.order.trans h.order,k.place.trans h.place,Int.le_trans h.next k.next,fun f t ht=>k.node f t (h.node f t ht)⟩
variable {S':ST}
theorem Sub.n (h:Sub S S'):S'.n=S.n:=by unfold ST.n;rw [h.order]
theorem Sub.pl (h:Sub S S') (v:Int):S'.pl v=S.pl v:=by unfold ST.pl;rw [h.place]
theorem Sub.ok (h:Sub S S') {f:Int} (hf:S.ok f):S'.ok f:=by
 rcases hf with h0 | h0 | ⟨h2,t,ht⟩
 ·exact .inl h0
 ·exact .inr (.inl h0)
 ·exact .inr (.inr ⟨h2,t,h.node f t ht⟩)
theorem Sub.lev (h:Sub S S') {f:Int} (hf:S.ok f):S'.lev f=S.lev f:=by
 rcases hf with rfl | rfl | ⟨h2,t,ht⟩
 ·rw [E4 (by omega),E4 (by omega),h.n]
 ·rw [E4 (by omega),E4 (by omega),h.n]
 ·have:¬ f≤1:=by omega
  simp only [ST.lev,this,if_false,ht,h.node f t ht,h.pl]
theorem Sub.den (h:Sub S S') (hw:WF S) (hw':WF S') {f:Int} (hf:S.ok f) (σ:Int→Bool):S'.den f σ=S.den f σ:=by
 refine Na hw (p:=fun f=>S'.den f σ=S.den f σ) ?_ ?_ ?_ f hf
 ·rw [CF,CF]
 ·rw [Da,Da]
 ·intro f v l h' ht _ _ il ih;rw [Cd hw ht,Cd hw' (h.node _ _ ht),il,ih]
end
structure EH (S S':ST):Prop extends Sub S S' where
 len:(S'.N.length:Int) - S'.next=(S.N.length:Int) - S.next
theorem EH.refl (S:ST):EH S S:=⟨Sub.refl S,rfl⟩
theorem EH.trans {A B C:ST} (h:EH A B) (k:EH B C):EH A C:=⟨h.toSub.trans k.toSub,k.len.trans h.len⟩
def ST.add (S:ST) (t:GW):ST:={ S with N:=put S.N S.next t,U:=put S.U t S.next,next:=S.next+1 }
theorem YH {S:ST} (hw:WF S) (t:GW):EH S (S.add t):=by
 have hnone:DH S.N S.next=none:=by
  cases hg:DH S.N S.next with
  | none=>rfl
  | some u=>obtain ⟨a,b,c⟩:=u;have:=hw.node _ a b c hg;omega
 refine ⟨⟨rfl,rfl,by simp [ST.add];omega,fun f u hu=>?_⟩,?_⟩
 ·obtain ⟨v,l,h⟩:=u;have:=hw.node f v l h hu;have hne:f≠S.next:=by omega
  simp [ST.add,GZ,hne,hu]
 ·have e:=O8 t hnone;simp only [ST.add];rw [e];omega
theorem nG {S:ST} (hw:WF S) {v l h:Int} (v0:0≤v) (v1:v<S.n) (hlh:l≠h) (okl:S.ok l) (okh:S.ok h) (pl:S.pl v<S.lev l) (ph:S.pl v<S.lev h) (hnew:DH S.U (v,l,h)=none) :
  WF (S.add (v,l,h))∧DH (S.add (v,l,h)).N S.next=some (v,l,h):=by
 have hx:=YH hw (v,l,h);have hat:DH (S.add (v,l,h)).N S.next=some (v,l,h):=by simp [ST.add,GZ]
 have hnone:DH S.N S.next=none:=by
  cases hg:DH S.N S.next with
  | none=>rfl
  | some u=>obtain ⟨a,b,c⟩:=u;have:=hw.node _ a b c hg;omega
 refine ⟨⟨hw.ord,by have:=hw.two;simp [ST.add];omega,?_,?_⟩,hat⟩
 ·intro f a b c hg;have hn:(S.add (v,l,h)).n=S.n:=rfl;have hp:∀ u,(S.add (v,l,h)).pl u=S.pl u:=fun _=>rfl;have hnx:(S.add (v,l,h)).next=S.next+1:=rfl;by_cases hf:f=S.next
  ·subst hf;rw [hat] at hg;have e:=As hg;simp only [Prod.mk.injEq] at e;obtain ⟨rfl,rfl,rfl⟩:=e;rw [hn,hp,hx.lev okl,hx.lev okh,hnx];exact ⟨hw.two,by omega,v0,v1,hlh,hx.ok okl,hx.ok okh,pl,ph⟩
  ·have hg':DH S.N f=some (a,b,c):=(by simpa [ST.add,GZ,hf] using hg);obtain ⟨x1,x2,x3,x4,x5,x6,x7,x8,x9⟩:=hw.node f a b c hg';rw [hn,hp,hx.lev x6,hx.lev x7,hnx];exact ⟨x1,by omega,x3,x4,x5,hx.ok x6,hx.ok x7,x8,x9⟩
 ·intro t f;simp only [ST.add,GZ];by_cases ht:t=(v,l,h)
  ·subst ht;simp only [if_true,BH];constructor
   ·intro e;subst e;simp
   ·intro e;by_cases hf:f=S.next
    ·exact hf.symm
    ·simp only [hf,if_false] at e;rw [(hw.inv _ _).2 e] at hnew;cases hnew
  ·simp only [ht,if_false];rw [hw.inv];by_cases hf:f=S.next
   ·subst hf;rw [hnone];simp only [if_true,BH];exact ⟨fun e=>(nomatch e),fun e=>absurd e.symm ht⟩
   ·simp [hf]
def ST.cof (S:ST) (f u:Int):Int×Int:=match DH S.N f with
 | some t=>if 1<f∧t.1=u then (t.2.1,t.2.2) else (f,f)
 | none=>(f,f)
theorem Sv {S:ST} (hw:WF S) {f:Int} (u:Int) (hf:f≤1):S.cof f u=(f,f):=by
 unfold ST.cof;cases hg:DH S.N f with
 | none=>rfl
 | some t=>obtain ⟨a,b,c⟩:=t;have:=hw.node f a b c hg;omega
theorem MU {S:ST} (hw:WF S) {f u:Int} (hf:S.ok f) (u0:0≤u) (u1:u<S.n) (hu:S.pl u≤S.lev f) :
  S.ok (S.cof f u).1∧S.ok (S.cof f u).2∧S.pl u<S.lev (S.cof f u).1∧S.pl u<S.lev (S.cof f u).2∧S.lev f≤S.lev (S.cof f u).1∧S.lev f≤S.lev (S.cof f u).2 ∧
   ∀ σ,S.den f σ=if σ u then S.den (S.cof f u).2 σ else S.den (S.cof f u).1 σ:=by
 have hpu:=hw.pl_range u0 u1;by_cases hlow:f≤1
 ·rw [Sv hw u hlow,E4 hlow];exact ⟨hf,hf,hpu.2.1,hpu.2.1,Co _,Co _,fun σ=>by simp⟩
 ·have hf':=hf;rcases hf' with rfl | rfl | ⟨h2,⟨v,l,h⟩,ht⟩
  ·omega
  ·omega
  obtain ⟨x1,x2,x3,x4,x5,x6,x7,x8,x9⟩:=hw.node f v l h ht;have hl:=Cf hw ht;dsimp only at hl;by_cases hv:v=u
  ·subst hv;have e:S.cof f v=(l,h):=by
    have:1<f:=(by omega);simp [ST.cof,ht,this]
   rw [e,hl];exact ⟨x6,x7,x8,x9,by dsimp only;omega,by dsimp only;omega,fun σ=>Cd hw ht σ⟩
  ·have e:S.cof f u=(f,f):=(by simp [ST.cof,ht,hv]);have hne:S.pl u≠S.lev f:=fun e2=>hv (hw.pl_inj x3 x4 u0 u1 (by rw [←hl,e2]));rw [e];exact ⟨hf,hf,by dsimp only;omega,by dsimp only;omega,Co _,Co _,fun σ=>by simp⟩
def Jw (S:ST):Prop:=∀ f g h r,DH S.K (f,g,h)=some r→S.ok f∧S.ok g∧S.ok h∧S.ok r∧(∀ σ,S.den r σ=if S.den f σ then S.den g σ else S.den h σ) ∧
 ∀ m,m≤S.lev f→m≤S.lev g→m≤S.lev h→m≤S.lev r
theorem Jw.ext {S S':ST} (h:Jw S) (x:EH S S') (hw:WF S) (hw':WF S') (e:S'.K=S.K):Jw S':=by
 intro f g k r hg;rw [e] at hg;obtain ⟨a,b,c,d,den,lv⟩:=h f g k r hg;refine ⟨x.ok a,x.ok b,x.ok c,x.ok d,fun σ=>?_,fun m=>?_⟩
 ·rw [x.den hw hw' d,x.den hw hw' a,x.den hw hw' b,x.den hw hw' c];exact den σ
 ·rw [x.lev a,x.lev b,x.lev c,x.lev d];exact lv m
def Gp:Nat→Int
 | 0=>0
 | k+1=>2 * Gp k+1
theorem Ee:∀ k,0≤Gp k
 | 0=>by simp [Gp]
 | k+1=>by have:=Ee k;simp only [Gp];omega
theorem eM {j k:Nat} (h:j≤k):Gp j≤Gp k:=by
 induction h with
 | refl=>exact Co _
 | step h ih=>rename_i m;have:=Ee m;simp only [Gp];omega
structure LD (S S':ST) (v l h r:Int):Prop where
 ext:EH S S'
 wf:WF S'
 known:S'.K=S.K
 ok:S'.ok r
 den:∀ σ,S'.den r σ=if σ v then S.den h σ else S.den l σ
 next:S'.next≤S.next+1
 lev:∀ m,m≤S.pl v→m≤S.lev l→m≤S.lev h→m≤S'.lev r
theorem SH {S:ST} (hw:WF S) (v l:Int) (okl:S.ok l):LD S S v l l l:=
 ⟨EH.refl S,hw,rfl,okl,fun σ=>by simp,by omega,fun m _ h _=>h⟩
theorem QN {S:ST} (hw:WF S) {v l h f:Int} (hg:DH S.U (v,l,h)=some f):LD S S v l h f:=by
 have ht:=(hw.inv _ _).1 hg;have hn:=hw.node f v l h ht;exact ⟨EH.refl S,hw,rfl,.inr (.inr ⟨hn.1,_,ht⟩),fun σ=>Cd hw ht σ,by omega,fun m h1 _ _=>by rw [Cf hw ht];exact h1⟩
theorem UM {S:ST} (hw:WF S) {v l h:Int} (v0:0≤v) (v1:v<S.n) (hlh:l≠h) (okl:S.ok l) (okh:S.ok h) (pl:S.pl v<S.lev l) (ph:S.pl v<S.lev h) (hnew:DH S.U (v,l,h)=none) :
  LD S (S.add (v,l,h)) v l h S.next:=by
 obtain ⟨hw',hat⟩:=nG hw v0 v1 hlh okl okh pl ph hnew;have hx:=YH hw (v,l,h);refine ⟨hx,hw',rfl,.inr (.inr ⟨hw.two,_,hat⟩),fun σ=>?_,Co _,fun m h1 _ _=>?_⟩
 ·rw [Cd hw' hat,hx.den hw hw' okl,hx.den hw hw' okh]
 ·rw [Cf hw' hat,hx.pl];exact h1
structure Jh (S S':ST) (f g h r:Int) (k:Nat):Prop where
 ext:EH S S'
 wf:WF S'
 known:Jw S'
 ok:S'.ok r
 den:∀ σ,S'.den r σ=if S.den f σ then S.den g σ else S.den h σ
 next:S'.next≤S.next+Gp k
 lev:∀ m,m≤S.lev f→m≤S.lev g→m≤S.lev h→m≤S'.lev r
theorem QP {S:ST} (hw:WF S) (hk:Jw S) {f g h r:Int} (k:Nat) (okr:S.ok r) (den:∀ σ,S.den r σ=if S.den f σ then S.den g σ else S.den h σ)
  (lev:∀ m,m≤S.lev f→m≤S.lev g→m≤S.lev h→m≤S.lev r):Jh S S f g h r k:=
 ⟨EH.refl S,hw,hk,okr,den,by have:=Ee k;omega,lev⟩
def ST.withK (S:ST) (K:List (GW×Int)):ST:={ S with K:=K }
theorem OM {S:ST} (h:WF S) (K:List (GW×Int)):WF (S.withK K):=⟨h.ord,h.two,h.node,h.inv⟩
theorem YT {S S':ST} (h:EH S S') (K:List (GW×Int)):EH S (S'.withK K):=⟨⟨h.order,h.place,h.next,h.node⟩,h.len⟩
structure Cof (S:ST) (f top f0 f1:Int):Prop where
 ok0:S.ok f0
 ok1:S.ok f1
 lt0:S.pl top<S.lev f0
 lt1:S.pl top<S.lev f1
 le0:S.lev f≤S.lev f0
 le1:S.lev f≤S.lev f1
 den:∀ σ,S.den f σ=if σ top then S.den f1 σ else S.den f0 σ
theorem SV {S S1 S2 S3:ST} (hw:WF S) {f g h top f0 f1 g0 g1 h0 h1 r0 r1 x:Int} {k:Nat} (okf:S.ok f) (okg:S.ok g) (okh:S.ok h)
  (hm:min (min (S.lev f) (S.lev g)) (S.lev h)≤S.pl top) (cf:Cof S f top f0 f1) (cg:Cof S g top g0 g1) (ch:Cof S h top h0 h1)
  (p0:Jh S S1 f0 g0 h0 r0 k) (p1:Jh S1 S2 f1 g1 h1 r1 k) (p2:LD S2 S3 top r0 r1 x):Jh S (S3.withK (put S3.K (f,g,h) x)) f g h x (k+1):=by
 have x1:=p0.ext;have x2:=x1.trans p1.ext;have x3:=x2.trans p2.ext;have den:∀ σ,S3.den x σ=if S.den f σ then S.den g σ else S.den h σ:=by
  intro σ;rw [p2.den,p1.den,p1.ext.den p0.wf p1.wf p0.ok,p0.den,x1.den hw p0.wf cf.ok1,x1.den hw p0.wf cg.ok1,x1.den hw p0.wf ch.ok1,cf.den,cg.den,ch.den];cases σ top <;> simp
 have lev:∀ m,m≤S.lev f→m≤S.lev g→m≤S.lev h→m≤S3.lev x:=by
  intro m hf hg hh;have a0:=p0.lev m (Int.le_trans hf cf.le0) (Int.le_trans hg cg.le0) (Int.le_trans hh ch.le0);have a1:=p1.lev m (by rw [x1.lev cf.ok1];exact Int.le_trans hf cf.le1) (by rw [x1.lev cg.ok1];exact Int.le_trans hg cg.le1) (by rw [x1.lev ch.ok1];exact Int.le_trans hh ch.le1);refine p2.lev m ?_ (by rw [p1.ext.lev p0.ok];exact a0) a1;rw [x2.pl];omega
 refine ⟨YT x3 _,OM p2.wf _,?_,p2.ok,den,?_,lev⟩
 ·have hk3:Jw S3:=p1.known.ext p2.ext p1.wf p2.wf p2.known;intro a b c r hg;show S3.ok a∧S3.ok b∧S3.ok c∧S3.ok r∧(∀ σ,S3.den r σ=if S3.den a σ then S3.den b σ else S3.den c σ)∧∀ m,m≤S3.lev a→m≤S3.lev b→m≤S3.lev c→m≤S3.lev r;have hg':(if (a,b,c)=(f,g,h) then some x else DH S3.K (a,b,c))=some r:=by rw [←GZ];exact hg
  by_cases e:(a,b,c)=(f,g,h)
  ·rw [if_pos e] at hg';simp only [Prod.mk.injEq] at e;obtain ⟨rfl,rfl,rfl⟩:=e;have e2:=As hg';subst e2;refine ⟨x3.ok okf,x3.ok okg,x3.ok okh,p2.ok,fun σ=>?_,fun m=>?_⟩
   ·rw [den,x3.den hw p2.wf okf,x3.den hw p2.wf okg,x3.den hw p2.wf okh]
   ·rw [x3.lev okf,x3.lev okg,x3.lev okh];exact lev m
  ·rw [if_neg e] at hg';exact hk3 a b c r hg'
 ·show S3.next≤S.next+Gp (k+1);have a:=p0.next;have b:=p1.next;have c:=p2.next;simp only [Gp];omega
def J3 (a v:Int):Bool:=decide (a / 2 ^ v.toNat % 2=1)
def QA (X:Int) (S:ST) (f r:Int):Prop:=S.ok r∧S.lev f≤S.lev r ∧
 ∀ σ,S.den r σ=true↔∃ τ:Int→Bool,(∀ v:Int,0≤v→v<S.n→J3 X v=false→τ v=σ v)∧S.den f τ=true
theorem QA.mono {X:Int} (S S':ST) (f r:Int) (okf:S.ok f) (x:EH S S') (hw:WF S) (hw':WF S') (h:QA X S f r):QA X S' f r:=by
 obtain ⟨a,b,c⟩:=h;refine ⟨x.ok a,by rw [x.lev okf,x.lev a];exact b,fun σ=>?_⟩;rw [x.den hw hw' a,c,x.n];constructor
 ·rintro ⟨τ,h1,h2⟩;exact ⟨τ,h1,by rw [x.den hw hw' okf];exact h2⟩
 ·rintro ⟨τ,h1,h2⟩;exact ⟨τ,h1,by rw [x.den hw hw' okf] at h2;exact h2⟩
theorem QA.const (X:Int) (S:ST) {f:Int} (h:f=0∨f=1):QA X S f f:=by
 refine ⟨by rcases h with rfl | rfl <;> simp [ST.ok],Co _,fun σ=>?_⟩;rcases h with rfl | rfl
 ·simp [CF]
 ·simp only [Da,true_iff];exact ⟨σ,fun _ _ _ _=>rfl,trivial⟩
theorem L3 (σ:Int→Bool) (v:Int) (b:Bool):LJ σ v b v=b:=by simp [LJ]
theorem OO (σ:Int→Bool) {v u:Int} (b:Bool) (h:u≠v):LJ σ v b u=σ u:=by simp [LJ,h]
theorem QA.bit {X:Int} {S S':ST} {f v l h rl rh r:Int} (hw:WF S) (hw':WF S') (x:EH S S') (ht:DH S.N f=some (v,l,h)) (hb:J3 X v=true) (al:QA X S l rl) (ah:QA X S h rh)
  (ok:S'.ok r) (den:∀ σ,S'.den r σ=(S.den rl σ || S.den rh σ)) (lev:min (S.lev rl) (S.lev rh)≤S'.lev r):QA X S' f r:=by
 obtain ⟨x1,x2,v0,v1,x5,okl,okh,pll,plh⟩:=hw.node f v l h ht;have okf:S.ok f:=.inr (.inr ⟨x1,_,ht⟩);have hlf:=Cf hw ht;dsimp only at hlf;refine ⟨ok,?_,fun σ=>?_⟩
 ·rw [x.lev okf,hlf];have:=al.2.1;have:=ah.2.1;omega
 ·rw [den,x.n,Cw,al.2.2,ah.2.2];constructor
  ·rintro (⟨τ,h1,h2⟩ | ⟨τ,h1,h2⟩)
   ·refine ⟨LJ τ v false,fun u u0 u1 hu=>?_,?_⟩
    ·rw [OO _ _ (fun e=>by subst e;rw [hb] at hu;cases hu)];exact h1 u u0 u1 hu
    ·rw [x.den hw hw' okf,Cd hw ht,L3,CS hw okl v0 v1 pll];exact h2
   ·refine ⟨LJ τ v true,fun u u0 u1 hu=>?_,?_⟩
    ·rw [OO _ _ (fun e=>by subst e;rw [hb] at hu;cases hu)];exact h1 u u0 u1 hu
    ·rw [x.den hw hw' okf,Cd hw ht,L3,CS hw okh v0 v1 plh];exact h2
  ·rintro ⟨τ,h1,h2⟩;rw [x.den hw hw' okf,Cd hw ht] at h2;cases hv:τ v with
   | true=>rw [hv] at h2;exact .inr ⟨τ,h1,h2⟩
   | false=>rw [hv] at h2;exact .inl ⟨τ,h1,h2⟩
theorem QA.keep {X:Int} {S S':ST} {f v l h rl rh r:Int} (hw:WF S) (ht:DH S.N f=some (v,l,h)) (hb:J3 X v=false) (al:QA X S l rl) (ah:QA X S h rh) (p:LD S S' v rl rh r):QA X S' f r:=by
 obtain ⟨x1,x2,v0,v1,x5,okl,okh,pll,plh⟩:=hw.node f v l h ht;have okf:S.ok f:=.inr (.inr ⟨x1,_,ht⟩);have hlf:=Cf hw ht;dsimp only at hlf;refine ⟨p.ok,?_,fun σ=>?_⟩
 ·rw [p.ext.lev okf,hlf];exact p.lev _ (Co _) (by have:=al.2.1;omega) (by have:=ah.2.1;omega)
 ·rw [p.den,p.ext.n];constructor
  ·intro hr;cases hv:σ v with
   | true=>
    rw [hv] at hr;obtain ⟨τ,h1,h2⟩:=(ah.2.2 σ).1 hr;refine ⟨τ,h1,?_⟩;rw [p.ext.den hw p.wf okf,Cd hw ht,h1 v v0 v1 hb,hv];exact h2
   | false=>
    rw [hv] at hr;obtain ⟨τ,h1,h2⟩:=(al.2.2 σ).1 hr;refine ⟨τ,h1,?_⟩;rw [p.ext.den hw p.wf okf,Cd hw ht,h1 v v0 v1 hb,hv];exact h2
  ·rintro ⟨τ,h1,h2⟩;rw [p.ext.den hw p.wf okf,Cd hw ht,h1 v v0 v1 hb] at h2;cases hv:σ v with
   | true=>rw [hv] at h2;exact (ah.2.2 σ).2 ⟨τ,h1,h2⟩
   | false=>rw [hv] at h2;exact (al.2.2 σ).2 ⟨τ,h1,h2⟩
theorem Tb (σ:Int→Bool) {u v:Int} (h:u≠v) (a b:Bool):LJ (LJ σ u a) v b=LJ (LJ σ v b) u a:=by
 funext x
 unfold LJ;by_cases e1:x=v
 ·by_cases e2:x=u
  ·exact absurd (e2.symm.trans e1) h
  ·subst e1;simp [e2]
 ·simp [e1]
def Ef (S:ST) (roots:List Int) (f:Int):Prop:=
 ∀ p:Int→Prop,(∀ r∈roots,2≤r→p r)→(∀ g v l h,p g→DH S.N g=some (v,l,h)→(2≤l→p l)∧(2≤h→p h))→p f
theorem Ef.root {S:ST} {roots:List Int} {r:Int} (h:r∈roots) (h2:2≤r):Ef S roots r:=fun _ a _=>a r h h2
theorem Ef.low {S:ST} {roots:List Int} {f v l h:Int} (hr:Ef S roots f) (ht:DH S.N f=some (v,l,h)) (h2:2≤l):Ef S roots l:=fun p a b=>(b f v l h (hr p a b) ht).1 h2
theorem Ef.high {S:ST} {roots:List Int} {f v l h:Int} (hr:Ef S roots f) (ht:DH S.N f=some (v,l,h)) (h2:2≤h):Ef S roots h:=fun p a b=>(b f v l h (hr p a b) ht).2 h2
def GH (S:ST) (roots:List Int):Prop:=∀ r∈roots,S.ok r
theorem Mv {α:Type} [DecidableEq α]:∀ (l m:List α),l.Nodup→(∀ x∈l,x∈m)→l.length≤m.length
 | [],_,_,_=>by simp
 | a :: l,m,h,hm=>by
  simp only [B9] at h;have ha:a∈m:=hm a (by simp);have hpos:0<m.length:=DR ha;have:=Mv l (m.erase a) h.2 (fun x hx=>(List.mem_erase_of_ne (fun (e:x=a)=>h.1 (e ▸ hx))).2 (hm x (AO _ hx)));rw [List.length_erase_of_mem ha] at this;simp only [AV];omega
def Jy (N:List (Int×GW)):Nat→Int→List Int
 | 0,_=>[]
 | k+1,f=>if f≤1 then [] else match DH N f with
  | none=>[]
  | some t=>f :: (Jy N k t.2.1++Jy N k t.2.2)
theorem KD (N:List (Int×GW)):∀ k f,((Jy N k f).length:Int)≤Gp k
 | 0,f=>by simp [Jy,Gp]
 | k+1,f=>by
  have hc:=Ee k;unfold Jy;split
  ·simp only [A1,Gp];omega
  ·split
   ·simp only [A1,Gp];omega
   ·rename_i t _;have:=KD N k t.2.1;have:=KD N k t.2.2;simp only [AV,AN,Gp];omega
theorem KG {S:ST} (hw:WF S):∀ (k:Nat) (f:Int),S.ok f→(S.n:Int) - S.lev f≤k→∀ g v l h,g∈Jy S.N k f→DH S.N g=some (v,l,h)→(2≤l→l∈Jy S.N k f)∧(2≤h→h∈Jy S.N k f)
 | 0,_,_,_,_,_,_,_,hg,_=>by simp [Jy] at hg
 | k+1,f,okf,hk,g,v,l,h,hg,ht=>by
  have head:∀ (k:Nat) (c:Int),S.ok c→2≤c→(S.n:Int) - S.lev c≤k→c∈Jy S.N k c:=by
   intro k c okc c2 hk;have hlt:=(DJ hw okc).2 c2;cases k with
   | zero=>omega
   | succ k=>
    rcases okc with rfl | rfl | ⟨_,t,hc⟩
    ·omega
    ·omega
    ·have:¬ c≤1:=(by omega);simp [Jy,this,hc]
  unfold Jy at hg ⊢;by_cases f1:f≤1
  ·simp [f1] at hg
  ·simp only [f1,if_false] at hg ⊢;rcases okf with rfl | rfl | ⟨f2,⟨a,b,c⟩,hf⟩
   ·omega
   ·omega
   rw [hf] at hg ⊢;obtain ⟨x1,x2,x3,x4,x5,okb,okc,pb,pc⟩:=hw.node f a b c hf;rw [Cf hw hf] at hk;dsimp only at hk hg ⊢;rcases AJ.1 hg with e | hg
   ·subst e;rw [hf] at ht;simp only [BH,Prod.mk.injEq] at ht;obtain ⟨rfl,rfl,rfl⟩:=ht;exact ⟨fun h2=>AO _ (AC.2 (.inl (head k _ okb h2 (by omega)))),fun h2=>AO _ (AC.2 (.inr (head k _ okc h2 (by omega))))⟩
   ·rcases AC.1 hg with hg | hg
    ·obtain ⟨i1,i2⟩:=KG hw k b okb (by omega) g v l h hg ht;exact ⟨fun h2=>AO _ (AC.2 (.inl (i1 h2))),fun h2=>AO _ (AC.2 (.inl (i2 h2)))⟩
    ·obtain ⟨i1,i2⟩:=KG hw k c okc (by omega) g v l h hg ht;exact ⟨fun h2=>AO _ (AC.2 (.inr (i1 h2))),fun h2=>AO _ (AC.2 (.inr (i2 h2)))⟩
theorem Yb {S:ST} (hw:WF S) {f:Int} (okf:S.ok f) (f2:2≤f):f∈Jy S.N S.n f:=by
 have hlt:=(DJ hw okf).2 f2;have h0:=Bb hw okf;obtain ⟨k,hk⟩:∃ k,S.n=k+1:=⟨S.n - 1,by omega⟩;rw [hk];rcases okf with rfl | rfl | ⟨_,t,hc⟩
 ·omega
 ·omega
 ·have:¬ f≤1:=by omega
  simp [Jy,this,hc]
theorem V9 {S:ST} (hw:WF S) {roots:List Int} (hr:GH S roots) {f:Int} (h:Ef S roots f):f∈roots.flatMap (Jy S.N S.n):=by
 refine h (fun f=>f∈roots.flatMap (Jy S.N S.n)) (fun r hm h2=>A2.2 ⟨r,hm,Yb hw (hr r hm) h2⟩) ?_;intro g v l h' hg ht;obtain ⟨r,hm,hg⟩:=A2.1 hg;have h0:=Bb hw (hr r hm);obtain ⟨i1,i2⟩:=KG hw S.n r (hr r hm) (by omega) g v l h' hg ht;exact ⟨fun h2=>A2.2 ⟨r,hm,i1 h2⟩,fun h2=>A2.2 ⟨r,hm,i2 h2⟩⟩
theorem Kd (N:List (Int×GW)) (k:Nat):∀ roots:List Int,((roots.flatMap (Jy N k)).length:Int)≤roots.length * Gp k
 | []=>by simp
 | r :: roots=>by
  have:=KD N k r;have:=Kd N k roots;simp only [BK,AN,AV];have e:((roots.length+1:Nat):Int) * Gp k=roots.length * Gp k+Gp k:=by
   rw [Int.natCast_add,Int.add_mul];simp
  rw [e];omega
structure RP (S:ST) (roots:List Int) (xs:List (Int×GW)):Prop where
 nodup:(xs.map Prod.fst).Nodup
 at_:∀ x∈xs,DH S.N x.1=some x.2
 iff:∀ f,f∈xs.map Prod.fst↔Ef S roots f
structure IX (S S':ST) (roots:List Int):Prop where
 order:S'.order=S.order
 place:S'.place=S.place
 next:S'.next=S.next
 known:S'.K=[]
 node:∀ f t,DH S'.N f=some t↔DH S.N f=some t∧Ef S roots f
 number:∀ t f,DH S'.U t=some f↔DH S.U t=some f∧Ef S roots f
theorem IX.sub {S S':ST} {roots:List Int} (h:IX S S' roots):Sub S' S:=⟨h.order.symm,h.place.symm,Int.le_of_eq h.next,fun f t ht=>((h.node f t).1 ht).1⟩
theorem IX.ok_root {S S':ST} {roots:List Int} (h:IX S S' roots) (hr:GH S roots) {r:Int} (hm:r∈roots):S'.ok r:=by
 rcases hr r hm with e | e | ⟨h2,t,ht⟩
 ·exact .inl e
 ·exact .inr (.inl e)
 ·exact .inr (.inr ⟨h2,t,(h.node r t).2 ⟨ht,Ef.root hm h2⟩⟩)
theorem IX.wf {S S':ST} {roots:List Int} (hw:WF S) (h:IX S S' roots):WF S':=by
 have hsub:=h.sub;have okc:∀ c,S.ok c→(2≤c→Ef S roots c)→S'.ok c:=by
  intro c hc hr;rcases hc with e | e | ⟨h2,t,ht⟩
  ·exact .inl e
  ·exact .inr (.inl e)
  ·exact .inr (.inr ⟨h2,t,(h.node c t).2 ⟨ht,hr h2⟩⟩)
 refine ⟨by rw [h.order,h.place];exact hw.ord,by rw [h.next];exact hw.two,?_,?_⟩
 ·intro f v l hh ht;obtain ⟨ht',hr⟩:=(h.node _ _).1 ht;obtain ⟨x1,x2,x3,x4,x5,okl,okh,pl,ph⟩:=hw.node f v l hh ht';have ol:=okc l okl (fun h2=>hr.low ht' h2);have oh:=okc hh okh (fun h2=>hr.high ht' h2);refine ⟨x1,by rw [h.next];exact x2,x3,by rw [←hsub.n];exact x4,x5,ol,oh,?_,?_⟩
  ·rw [←hsub.pl,←hsub.lev ol];exact pl
  ·rw [←hsub.pl,←hsub.lev oh];exact ph
 ·intro t f;rw [h.number,h.node,hw.inv]
theorem IX.den {S S':ST} {roots:List Int} (hw:WF S) (h:IX S S' roots) {f:Int} (hf:S'.ok f) (σ:Int→Bool):S'.den f σ=S.den f σ:=(h.sub.den (h.wf hw) hw hf σ).symm
theorem IX.kok {S S':ST} {roots:List Int} (h:IX S S' roots):Jw S':=by
 intro f g k r hg;rw [h.known] at hg;cases hg
structure Jg (S:ST) (roots ws:List Int) (xs:List (Int×GW)):Prop where
 nodup:(xs.map Prod.fst).Nodup
 at_:∀ x∈xs,DH S.N x.1=some x.2
 reach:∀ x∈xs,Ef S roots x.1
 wok:∀ f∈ws,S.ok f∧(2≤f→Ef S roots f)
 roots:∀ r∈roots,2≤r→r∈xs.map Prod.fst∨r∈ws
 closed:∀ x∈xs,∀ c,c=x.2.2.1∨c=x.2.2.2→2≤c→c∈xs.map Prod.fst∨c∈ws
theorem Jg.start {S:ST} {roots:List Int} (hr:GH S roots):Jg S roots roots []:=
 ⟨by simp,by simp,by simp,fun f hf=>⟨hr f hf,fun h2=>Ef.root hf h2⟩,fun r hr _=>.inr hr,by simp⟩
theorem Jg.skip {S:ST} {roots ws:List Int} {f:Int} {xs:List (Int×GW)} (h:Jg S roots (ws++[f]) xs) (hf:f∈xs.map Prod.fst∨f≤1):Jg S roots ws xs:=by
 have key:∀ c,2≤c→(c∈xs.map Prod.fst∨c∈ws++[f])→c∈xs.map Prod.fst∨c∈ws:=by
  intro c h2 hc;rcases hc with hc | hc
  ·exact .inl hc
  ·rcases AC.1 hc with hc | hc
   ·exact .inr hc
   ·simp only [AG] at hc;subst hc;rcases hf with hf | hf
    ·exact .inl hf
    ·omega
 exact ⟨h.nodup,h.at_,h.reach,fun g hg=>h.wok g (AC.2 (.inl hg)),fun r hr h2=>key r h2 (h.roots r hr h2),fun x hx c hc h2=>key c h2 (h.closed x hx c hc h2)⟩
theorem Jg.take {S:ST} (hw:WF S) {roots ws:List Int} {f:Int} {t:GW} {xs:List (Int×GW)} (h:Jg S roots (ws++[f]) xs) (hf:f∉xs.map Prod.fst) (f2:2≤f) (ht:DH S.N f=some t) :
  Jg S roots (ws++[t.2.2,t.2.1]) (xs++[(f,t)]):=by
 obtain ⟨v,l,r⟩:=t;have hrf:=(h.wok f (by simp)).2 f2;have hn:=hw.node f v l r ht;have key:∀ c,(c∈xs.map Prod.fst∨c∈ws++[f])→c∈(xs++[(f,(v,l,r))]).map Prod.fst∨c∈ws++[r,l]:=by
  intro c hc;rcases hc with hc | hc
  ·exact .inl (by simp only [Ar,AC];exact .inl hc)
  ·rcases AC.1 hc with hc | hc
   ·exact .inr (AC.2 (.inl hc))
   ·simp only [AG] at hc;subst hc;exact .inl (by simp)
 refine ⟨?_,?_,?_,?_,fun q hq h2=>key q (h.roots q hq h2),?_⟩
 ·rw [Ar,BN];refine ⟨h.nodup,by simp,fun a ha b hb=>?_⟩;simp only [A0,Dg,AG] at hb;exact fun e=>hf (by rw [←hb,←e];exact ha)
 ·intro x hx;rcases AC.1 hx with hx | hx
  ·exact h.at_ x hx
  ·simp only [AG] at hx;subst hx;exact ht
 ·intro x hx;rcases AC.1 hx with hx | hx
  ·exact h.reach x hx
  ·simp only [AG] at hx;subst hx;exact hrf
 ·intro g hg;rcases AC.1 hg with hg | hg
  ·exact h.wok g (AC.2 (.inl hg))
  ·simp only [AJ,BA,or_false] at hg;rcases hg with rfl | rfl
   ·exact ⟨hn.2.2.2.2.2.2.1,fun h2=>hrf.high ht h2⟩
   ·exact ⟨hn.2.2.2.2.2.1,fun h2=>hrf.low ht h2⟩
 ·intro x hx c hc h2;rcases AC.1 hx with hx | hx
  ·exact key c (h.closed x hx c hc h2)
  ·simp only [AG] at hx;subst hx;refine .inr (AC.2 (.inr ?_));rcases hc with rfl | rfl <;> simp
theorem Jg.done {S:ST} {roots:List Int} {xs:List (Int×GW)} (h:Jg S roots [] xs):RP S roots xs:=by
 refine ⟨h.nodup,h.at_,fun f=>⟨fun hf=>?_,fun hr=>?_⟩⟩
 ·obtain ⟨x,hx,rfl⟩:=AR.1 hf;exact h.reach x hx
 ·refine hr (fun f=>f∈xs.map Prod.fst) (fun r hm h2=>by simpa using h.roots r hm h2) ?_;intro g v l hh hg ht;obtain ⟨x,hx,rfl⟩:=AR.1 hg;have e:=h.at_ x hx;rw [ht] at e;have e:=As e;constructor
  ·intro h2;simpa using h.closed x hx l (.inl (by rw [←e])) h2
  ·intro h2;simpa using h.closed x hx hh (.inr (by rw [←e])) h2
theorem Jg.length {S:ST} {roots ws:List Int} {xs:List (Int×GW)} (h:Jg S roots ws xs):xs.length≤S.N.length:=by
 have:=Mv (xs.map Prod.fst) (S.N.map Prod.fst) h.nodup (fun f hf=>by
  obtain ⟨x,hx,rfl⟩:=AR.1 hf
  exact AR.2 ⟨_,FK (h.at_ x hx),rfl⟩)
 simpa using this
section
variable {S C:ST} {u d:Int} {m:Nat} {T:List Int} {hole:Option GW}
end
section
variable {S C:ST} {u d:Int} {m:Nat}
end
section
variable {S S':ST}
theorem hangs (hw:WF S) {f v l h:Int} (ht:DH S.N f=some (v,l,h)):¬ ∀ σ,S.den f (LJ σ v true)=S.den f (LJ σ v false):=by
 intro hc;obtain ⟨_,_,v0,v1,lh,okl,okh,pl,ph⟩:=hw.node f v l h ht;refine lh (YB hw okl okh fun σ=>?_);have:=hc σ;rw [Cd hw ht,Cd hw ht] at this;simp only [LJ,if_true] at this;have e1:=CS hw okh v0 v1 ph σ true;have e2:=CS hw okl v0 v1 pl σ false;simp only [BT,if_false] at this;rw [e1,e2] at this;exact this.symm
end
end
section
open Go.RowKit
section
variable {P:Program} {K:TypeId} {α β:Type} {ek:α→Value} {ev:β→Value}
def Bo (ek:α→Value) (ev:β→Value) (w:World) (r:Nat) (L:List (α×β)):Prop:=
 ∃ es clock,w.heap[r]?=some (.map es clock)∧es.toList.map (fun e=>(e.key,e.val))=L.map (fun p=>(ek p.1,ev p.2)) ∧
  (es.toList.map (·.born)).Nodup∧(∀ e∈es.toList,e.born<clock)∧(L.map Prod.fst).Nodup
theorem Bo.of_heap {w w':World} {r:Nat} {L:List (α×β)} (h:Bo ek ev w r L) (e:w'.heap[r]?=w.heap[r]?):Bo ek ev w' r L:=by
 obtain ⟨es,clock,h1,h2⟩:=h;exact ⟨es,clock,e.trans h1,h2⟩
theorem Bo.lt {w:World} {r:Nat} {L:List (α×β)} (h:Bo ek ev w r L):r<w.heap.size:=by
 obtain ⟨es,clock,h1,h2⟩:=h;exact (AP.1 h1).1
theorem Bo.new (w:World) (c:Nat):Bo ek ev (w.alloc (.map #[] c)) w.heap.size ([]:List (α×β)):=
 ⟨#[],c,(MapKept.heap_alloc w _).1,by simp,by simp,by simp,by simp⟩
def blk (w:World) (r:Nat) (o:Obj):World:={ w with heap:=w.heap.setIfInBounds r o }
theorem Gd {w:World} {r:Nat} {o o':Obj} (h:w.heap[r]?=some o):(blk w r o').heap[r]?=some o':=(MapKept.heap_set h).1
theorem CU {w:World} {r:Nat} (o':Obj) {i:Nat} (hi:i≠r):(blk w r o').heap[i]?=w.heap[i]?:=by
 simp [blk,Ne.symm hi]
theorem Qr {T:TypeId} {d:TypeDesc} (ht:P.underlying T=some d) {w:World} {r:Nat} {L:List (α×β)} (h:Bo ek ev w r L) (ty:TypeId) :
  ∃ o,(Builtin.clear_ #[T] ty #[.map (some r)]).run P w=.ok (.tuple #[]) (blk w r o)∧Bo ek ev (blk w r o) r ([]:List (α×β)):=by
 obtain ⟨es,clock,h1,h2,h3,h4,h5⟩:=h;refine ⟨.map #[] clock,?_,#[],clock,Gd h1,by simp,by simp,by simp,by simp⟩;have hcell:(#[Value.map (some r)])[0]?=some (.map (some r)):=rfl;have hty:(#[T])[0]?=some T:=rfl;unfold Builtin.clear_;simp only [hcell,hty,Sem.run_bind,run_underlying ht,Result.andThen_ok,MapKept.run_getObj_map h1,MapKept.run_setObj_map _ h1,Sem.run_pure];rfl
end
structure LW (P:Program) (K:TypeId) {α:Type} [DecidableEq α] (ek:α→Value):Prop where
 check:∀ (em:Bool) (a:α) (w:World),(Instr.checkKey em 10000 K (ek a)).run P w=.ok () w
 eq:∀ (a b:α) (w:World),(Op.equal K (ek a) (ek b)).run P w=.ok (decide (a=b)) w
 under:∃ d,P.underlying K=some d∧∀ a b,Instr.sameNow d (ek a) (ek b)=none∨Instr.sameNow d (ek a) (ek b)=some (decide (a=b))
 stays:∀ (a:α) (w:World),(Instr.keyThatStays (ek a) (ek a)).run P w=.ok (ek a) w
section
variable {P:Program} {K:TypeId} {α β:Type} [DecidableEq α] {ek:α→Value} {ev:β→Value}
def spot (ev:β→Value):List (α×β)→α→Nat→Option (Nat×Value)
 | [],_,_=>none
 | p :: L,a,i=>if p.1=a then some (i,ev p.2) else spot ev L a (i+1)
theorem PM {d:TypeDesc} (hd:∀ a b,Instr.sameNow d (ek a) (ek b)=none∨Instr.sameNow d (ek a) (ek b)=some (decide (a=b))) (a:α) :
  ∀ (es:List MapEntry) (L:List (α×β)) (i:Nat),es.map (fun e=>(e.key,e.val))=L.map (fun p=>(ek p.1,ev p.2))→Instr.findNow d (ek a) es i=none∨Instr.findNow d (ek a) es i=some (spot ev L a i)
 | [],[],i,_=>.inr rfl
 | [],_ :: _,_,h=>by simp at h
 | _ :: _,[],_,h=>by simp at h
 | e :: es,p :: L,i,h=>by
  simp only [A0,CM,Prod.mk.injEq] at h;obtain ⟨⟨h1,h2⟩,h3⟩:=h;unfold Instr.findNow spot;rw [h1];rcases hd a p.1 with h0 | h0
  ·rw [h0];exact .inl rfl
  ·rw [h0];by_cases hp:p.1=a
   ·have:a=p.1:=hp.symm;simp [hp,h2]
   ·have:¬ a=p.1:=fun x=>hp x.symm;simp only [this,hp,decide_false,if_false];exact PM hd a es L (i+1) h3
theorem LP (hk:LW P K ek) (a:α) (w:World) :
  ∀ (es:List MapEntry) (L:List (α×β)) (i:Nat),es.map (fun e=>(e.key,e.val))=L.map (fun p=>(ek p.1,ev p.2))→(Instr.findAsking K (ek a) es i).run P w=.ok (spot ev L a i) w
 | [],[],i,_=>rfl
 | [],_ :: _,_,h=>by simp at h
 | _ :: _,[],_,h=>by simp at h
 | e :: es,p :: L,i,h=>by
  simp only [A0,CM,Prod.mk.injEq] at h;obtain ⟨⟨h1,h2⟩,h3⟩:=h;unfold Instr.findAsking spot;rw [h1];simp only [Sem.run_bind,hk.eq,Result.andThen_ok];by_cases hp:p.1=a
  ·simp [hp,h2]
  ·have:¬ a=p.1:=fun x=>hp x.symm;simp only [this,hp,decide_false,if_false,BT];exact LP hk a w es L (i+1) h3
theorem Fe (hk:LW P K ek) (a:α) (w:World) (es:List MapEntry) (L:List (α×β)) (h:es.map (fun e=>(e.key,e.val))=L.map (fun p=>(ek p.1,ev p.2))) :
  (Instr.findKey K (ek a) es).run P w=.ok (spot ev L a 0) w:=by
 obtain ⟨d,hd,hs⟩:=hk.under;unfold Instr.findKey;simp only [Sem.run_bind,run_underlying hd,Result.andThen_ok];rcases PM hs a es L 0 h with h0 | h0
 ·rw [h0];exact LP hk a w es L 0 h
 ·rw [h0];rfl
theorem Iu (a:α):∀ (L:List (α×β)) (i:Nat),(spot ev L a i=none∧DH L a=none)∨∃ j v,spot ev L a i=some (i+j,ev v)∧DH L a=some v∧L[j]?=some (a,v)
 | [],i=>.inl ⟨rfl,rfl⟩
 | p :: L,i=>by
  unfold spot;rw [EZ];by_cases hp:p.1=a
  ·subst hp;exact .inr ⟨0,p.2,by simp,by simp,by simp⟩
  ·simp only [hp,if_false];rcases Iu a L (i+1) with h | ⟨j,v,h1,h2,h3⟩
   ·exact .inl h
   ·exact .inr ⟨j+1,v,by rw [h1];congr 2;omega,h2,by simpa using h3⟩
theorem ET {T E:TypeId} (ht:P.underlying T=some (.map K E)) (hk:LW P K ek) {z:Value} (hz:∀ w,(zeroValue E).run P w=.ok z w) {w:World} {r:Nat} {L:List (α×β)} (h:Bo ek ev w r L) (a:α) (c:Bool) :
  (Instr.lookup T (.map (some r)) (ek a) c).run P w=.ok (if c then .tuple #[((DH L a).map ev).getD z,.bool (DH L a).isSome] else ((DH L a).map ev).getD z) w:=by
 obtain ⟨es,clock,h1,h2,h3,h4,h5⟩:=h;unfold Instr.lookup;simp only [Sem.run_bind,run_underlying ht,Result.andThen_ok,MapKept.run_getObj_map h1,Sem.run_pure,hk.check,Fe hk a w es.toList L h2];rcases Iu (ev:=ev) a L 0 with ⟨hs,hg⟩ | ⟨j,v,hs,hg,_⟩
 ·rw [hs,hg];simp only [Sem.run_bind,hz,Result.andThen_ok,Sem.run_pure,Ce,CA,B6]
 ·rw [hs,hg];simp only [A4,BS,CJ];rfl
theorem F6 {T E:TypeId} (ht:P.underlying T=some (.map K E)) (hk:LW P K ek) {w:World} {r:Nat} {L:List (α×β)} (h:Bo ek ev w r L) (a:α) (v:β) :
  ∃ o,(Instr.mapUpdate T (.map (some r)) (ek a) (ev v)).run P w=.ok () (blk w r o)∧Bo ek ev (blk w r o) r (put L a v):=by
 obtain ⟨es,clock,h1,h2,h3,h4,h5⟩:=h;unfold Instr.mapUpdate;simp only [Sem.run_bind,run_underlying ht,Result.andThen_ok,MapKept.run_getObj_map h1,hk.check,Fe hk a w es.toList L h2];rcases Iu (ev:=ev) a L 0 with ⟨hs,hg⟩ | ⟨j,v0,hs,hg,hj⟩
 ·rw [hs];refine ⟨.map (es.push { key:=ek a,val:=ev v,born:=clock }) (clock+1),MapKept.run_setObj_map _ h1,_,_,Gd h1,?_,?_,?_,Q1 h5 a v⟩
  ·simp [put,hg,h2]
  ·simp only [Array.toList_push,Ar,A0,Dg];refine BN.2 ⟨h3,by simp,?_⟩;intro x hx y hy;simp only [AG] at hy;subst hy;obtain ⟨e,he,rfl⟩:=AR.1 hx;exact Nat.ne_of_lt (h4 e he)
  ·intro e he;simp only [Array.toList_push,AC,AG] at he;rcases he with he | rfl
   ·exact Nat.lt_succ_of_lt (h4 e he)
   ·exact Nat.lt_succ_self _
 ·rw [hs];have hlen:es.toList.length=L.length:=by have:=congrArg List.length h2;simpa using this
  have hjl:j<L.length:=(AL.1 hj).1;have hje:j<es.size:=by rw [←Array.length_toList,hlen];exact hjl
  have hkey:es[j].key=ek a:=by
   have:=congrArg (fun l:List (Value×Value)=>l[j]?) h2;simp only [AX,hj,A4,C4,Cx hje,BH,Prod.mk.injEq] at this;exact this.1
  have hkey':((es[0+j]?).map (·.key)).getD (ek a)=ek a:=by simp [Cx hje,hkey]
  have hrun:=MapKept.run_setObj_map (P:=P) (.map (es.modify (0+j) fun e=>{ e with key:=ek a,val:=ev v }) clock) h1;refine ⟨.map (es.modify (0+j) fun e=>{ e with key:=ek a,val:=ev v }) clock,?_,_,_,Gd h1,?_,?_,?_,Q1 h5 a v⟩
  ·simp only [hkey',Sem.run_bind,hk.stays,Result.andThen_ok];exact hrun
  ·unfold put;simp only [hg,CJ,if_true];rw [R3 h5 v hj];apply Bd;intro i;have h2i:=congrArg (fun l:List (Value×Value)=>l[i]?) h2;simp only [AX,C4,C5,Av,Ad] at h2i ⊢;by_cases hij:j=i
   ·subst hij;simp [Cx hje,hjl]
   ·simpa [hij] using h2i
  ·have:(es.modify (0+j) fun e=>{ e with key:=ek a,val:=ev v }).toList.map (·.born)=es.toList.map (·.born):=by
    apply Bd;intro i;simp only [AX,C4,C5];by_cases hij:0+j=i
    ·simp only [hij,if_true];cases es[i]? <;> simp
    ·simp only [hij,if_false]
   rw [this];exact h3
  ·intro e he;rw [Array.mem_toList_iff,Array.mem_iff_getElem?] at he;obtain ⟨i,hi⟩:=he;rw [C5] at hi;by_cases hij:0+j=i
   ·simp only [hij,if_true,Cn] at hi;obtain ⟨e0,he0,rfl⟩:=hi;exact h4 e0 (Array.mem_toList_iff.2 (Array.mem_of_getElem? he0))
   ·simp only [hij,if_false] at hi;exact h4 e (Array.mem_toList_iff.2 (Array.mem_of_getElem? hi))
theorem gX {T E:TypeId} (ht:P.underlying T=some (.map K E)) (hk:LW P K ek) {w:World} {r:Nat} {L:List (α×β)} (h:Bo ek ev w r L) (a:α) (ty:TypeId) :
  ∃ o,(Builtin.delete_ #[T,K] ty #[.map (some r),ek a]).run P w=.ok (.tuple #[]) (blk w r o)∧Bo ek ev (blk w r o) r (del L a):=by
 obtain ⟨es,clock,h1,h2,h3,h4,h5⟩:=h;have hcell:(#[Value.map (some r),ek a])[0]?=some (.map (some r)):=rfl;have hcell1:(#[Value.map (some r),ek a])[1]?=some (ek a):=rfl;have hty:(#[T,K])[0]?=some T:=rfl;unfold Builtin.delete_;simp only [hcell,hcell1,hty,Sem.run_bind,run_underlying ht,Result.andThen_ok,MapKept.run_getObj_map h1,hk.check,Fe hk a w es.toList L h2];rcases Iu (ev:=ev) a L 0 with ⟨hs,hg⟩ | ⟨j,v0,hs,hg,hj⟩
 ·rw [hs,PX hg];refine ⟨.map es clock,?_,es,clock,Gd h1,h2,h3,h4,h5⟩;rw [Sem.run_bind,MapKept.run_setObj_map _ h1];rfl
 ·rw [hs];have hlen:es.toList.length=L.length:=by have:=congrArg List.length h2;simpa using this
  have hjl:j<L.length:=(AL.1 hj).1;have hje:j<es.size:=by rw [←Array.length_toList,hlen];exact hjl
  have hE:(es.eraseIdxIfInBounds (0+j)).toList=es.toList.eraseIdx j:=by simp
  refine ⟨.map (es.eraseIdxIfInBounds (0+j)) clock,?_,_,_,Gd h1,?_,?_,?_,Q3 h5 a⟩
  ·rw [Sem.run_bind,MapKept.run_setObj_map _ h1];rfl
  ·rw [hE,PW h5 hj,ChangeMaps.map_eraseIdx,ChangeMaps.map_eraseIdx,h2]
  ·rw [hE,ChangeMaps.map_eraseIdx];exact h3.sublist (DX _ _)
  ·rw [hE];intro e he;exact h4 e ((DX _ _).mem he)
end
def eI (n:Int):Value:=.int .i64 n
def eT (t:GW):Value:=.agg #[.int .i64 t.1,.int .i64 t.2.1,.int .i64 t.2.2]
def eU (_:Unit):Value:=.agg #[]
theorem LH (w:World):(zeroValue 3).run prog w=.ok (.int .i64 0) w:=by kernel_rfl
theorem XZ (w:World):(zeroValue 228).run prog w=.ok (.agg #[.int .i64 0,.int .i64 0,.int .i64 0]) w:=by kernel_rfl
theorem RT (w:World):(zeroValue 339).run prog w=.ok (.agg #[]) w:=by kernel_rfl
theorem I1:LW prog 3 eI where
 check em a w:=MapKept.run_checkKey underlying3 (by simp [MapKept.IsKey,eI]) em 9999
 eq a b w:=by
  simp only [Op.equal,Op.maxDepth,eI];rw [run_equalIn_int w 9999 3 .i64 .i64 a b underlying3];rfl
 under:=⟨_,underlying3,fun a b=>.inr (by simp only [Instr.sameNow,eI,if_true];rfl)⟩
 stays a w:=by simp [Instr.keyThatStays,eI,Instr.sameBits]
theorem aQ:prog.stoodInHeld 228=false:=by kernel_rfl
theorem aP:prog.stoodInHeld 285=false:=by kernel_rfl
theorem Zf:prog.underlying 228=some (.struct (prog.fieldsOf 228)):=by kernel_rfl
theorem Ze:prog.underlying 285=some (.struct (prog.fieldsOf 285)):=by kernel_rfl
theorem bV (cs:Array Value) (off:Nat) (v:Value) (h:cs[off]?=some v) (w:World):(part 3 cs off).run prog w=.ok v w:=by
 have ha:∀ w,(isAgg 3).run prog w=.ok false w:=fun w=>by kernel_rfl
 unfold part;rw [Sem.run_bind,ha,Result.andThen_ok];simp only [BT,if_false,h];rfl
theorem R8 (x y z:Value) (w:World):(part 3 #[x,y,z] 0).run prog w=.ok x w:=bV _ _ _ rfl w
theorem R7 (x y z:Value) (w:World):(part 3 #[x,y,z] 1).run prog w=.ok y w:=bV _ _ _ rfl w
theorem R6 (x y z:Value) (w:World):(part 3 #[x,y,z] 2).run prog w=.ok z w:=bV _ _ _ rfl w
theorem eqF (d : Nat) (f1 f2 f3 : Field) (h1 : f1.type = 3 ∧ f1.offset = 0 ∧ f1.name ≠ "_") (h2 : f2.type = 3 ∧ f2.offset = 1 ∧ f2.name ≠ "_") (h3 : f3.type = 3 ∧ f3.offset = 2 ∧ f3.name ≠ "_") (a b : GW) (w : World) :
  (Op.eqFields (d+1) #[.int .i64 a.1,.int .i64 a.2.1,.int .i64 a.2.2] #[.int .i64 b.1,.int .i64 b.2.1,.int .i64 b.2.2] [f1,f2,f3]).run prog w=.ok (decide (a=b)) w:=by
 obtain ⟨a1,a2,a3⟩:=a;obtain ⟨b1,b2,b3⟩:=b;simp only [Op.eqFields,h1,h2,h3,ne_eq,not_false_eq_true,if_true,Sem.run_bind,R8,R7,R6,Result.andThen_ok,run_equalIn_int _ d 3 .i64 .i64 _ _ underlying3,Sem.run_ite,Sem.run_pure];by_cases e1:a1=b1
 ·by_cases e2:a2=b2
  ·by_cases e3:a3=b3
   ·simp [e1,e2,e3]
   ·simp [e1,e2,e3]
  ·simp [e1,e2]
 ·simp [e1]
theorem eq228 (a b:GW) (w:World):(Op.equal 228 (eT a) (eT b)).run prog w=.ok (decide (a=b)) w:=by
 simp only [Op.equal,Op.maxDepth,eT];rw [run_equalIn_struct w 9999 228 _ _ Zf aQ];simp only [Program.fieldsOf,underlying228];exact eqF 9998 _ _ _ ⟨rfl,rfl,by decide⟩ ⟨rfl,rfl,by decide⟩ ⟨rfl,rfl,by decide⟩ a b w
theorem eq285 (a b:GW) (w:World):(Op.equal 285 (eT a) (eT b)).run prog w=.ok (decide (a=b)) w:=by
 simp only [Op.equal,Op.maxDepth,eT];rw [run_equalIn_struct w 9999 285 _ _ Ze aP];simp only [Program.fieldsOf,underlying285];exact eqF 9998 _ _ _ ⟨rfl,rfl,by decide⟩ ⟨rfl,rfl,by decide⟩ ⟨rfl,rfl,by decide⟩ a b w
theorem aR (t:GW) (w:World):(Instr.keyThatStays (eT t) (eT t)).run prog w=.ok (eT t) w:=by
 have:Instr.sameBits 10000 (eT t) (eT t)=true:=by simp [eT,Instr.sameBits]
 simp [Instr.keyThatStays,this]
theorem TA (em:Bool) (d:Nat) (a:Int) (w:World):(Instr.checkKey em (d+1) 3 (.int .i64 a)).run prog w=.ok () w:=MapKept.run_checkKey underlying3 (by simp [MapKept.IsKey]) em d
theorem jY (em:Bool) (t:GW) (w:World):(Instr.checkKey em 10000 228 (eT t)).run prog w=.ok () w:=by
 rw [show (10000:Nat)=9998+1+1 from rfl,eT];unfold Instr.checkKey;simp only [Sem.run_bind,run_underlying underlying228,Result.andThen_ok];rw [←Array.forIn_toList];simp [R8,R7,R6,TA]
theorem jX (em:Bool) (t:GW) (w:World):(Instr.checkKey em 10000 285 (eT t)).run prog w=.ok () w:=by
 rw [show (10000:Nat)=9998+1+1 from rfl,eT];unfold Instr.checkKey;simp only [Sem.run_bind,run_underlying underlying285,Result.andThen_ok];rw [←Array.forIn_toList];simp [R8,R7,R6,TA]
theorem Wj:LW prog 228 eT:=⟨jY,eq228,⟨_,underlying228,fun _ _=>.inl rfl⟩,aR⟩
theorem dE:LW prog 285 eT:=⟨jX,eq285,⟨_,underlying285,fun _ _=>.inl rfl⟩,aR⟩
theorem AD {p:Prop} (h:p):Hid p:=h
structure AA (T:List Nat) (w w':World):Prop where
 os:w'.os=w.os
 tape:w'.tape=w.tape
 output:w'.output=w.output
 size:w.heap.size≤w'.heap.size
 block:∀ i,i<w.heap.size→i∉T→w'.heap[i]?=w.heap[i]?
theorem AA.refl (T:List Nat) (w:World):AA T w w:=⟨rfl,rfl,rfl,AS _,fun _ _ _=>rfl⟩
theorem AA.trans {T:List Nat} {a b c:World} (h:AA T a b) (k:AA T b c):AA T a c:=
 ⟨k.os.trans h.os,k.tape.trans h.tape,k.output.trans h.output,Ai h.size k.size,fun i hi hT=>(k.block i (A8 hi h.size) hT).trans (h.block i hi hT)⟩
theorem AA.mono {T T':List Nat} {w w':World} (h:AA T w w') (hT:∀ i∈T,i∈T'):AA T' w w':=
 ⟨h.os,h.tape,h.output,h.size,fun i hi hn=>h.block i hi fun x=>hn (hT i x)⟩
theorem AA.trans_new {T T':List Nat} {a b c:World} (h:AA T a b) (k:AA T' b c) (hT:∀ i∈T',i∈T∨a.heap.size≤i):AA T a c:=
 ⟨k.os.trans h.os,k.tape.trans h.tape,k.output.trans h.output,Ai h.size k.size,fun i hi hn=>(k.block i (A8 hi h.size) (fun x=>by
  rcases hT i x with h1 | h1
  ·exact hn h1
  ·omega)).trans (h.block i hi hn)⟩
theorem AA.drewN (T:List Nat) (w:World) (n:Nat):AA T w (w.drewN n):=⟨rfl,rfl,rfl,AS _,fun _ _ _=>rfl⟩
theorem AA.drew (T:List Nat) (w:World):AA T w w.drew:=⟨rfl,rfl,rfl,AS _,fun _ _ _=>rfl⟩
theorem AA.alloc (T:List Nat) (w:World) (o:Obj):AA T w (w.alloc o):=⟨rfl,rfl,rfl,by simp,fun i hi _=>Go.RowKit.Below.heap_alloc w o i hi⟩
theorem AA.setCell (w:World) (a:Addr) (v:Value):AA [a.block] w (w.setCell a v):=⟨rfl,rfl,rfl,by simp [World.setCell],fun i _ hn=>Go.RowKit.Below.heap_setCell w a v i (by simpa using hn)⟩
theorem AA.blk (w:World) (r:Nat) (o:Obj):AA [r] w (blk w r o):=⟨rfl,rfl,rfl,by simp [YtgjomknpjigkhaaGreatDoor.blk],fun i _ hn=>CU o (by simpa using hn)⟩
def AM (w:World) (b:Nat) (cs:Array Value):Prop:=∃ t,w.heap[b]?=some (.cells cs t (0,0))
theorem AM.cell {w:World} {b:Nat} {cs:Array Value} (h:AM w b cs) (i:Nat):w.cell? ⟨b,i,none⟩=cs[i]?:=by
 obtain ⟨t,h⟩:=h;simp [World.cell?,h]
theorem AM.frozen {w:World} {b:Nat} {cs:Array Value} (h:AM w b cs) (i:Nat):w.frozen? ⟨b,i,none⟩=false:=by
 obtain ⟨t,h⟩:=h;simp [World.frozen?,h]
theorem AM.lt {w:World} {b:Nat} {cs:Array Value} (h:AM w b cs):b<w.heap.size:=by
 obtain ⟨t,h⟩:=h;exact (AP.1 h).1
theorem AM.of_heap {w w':World} {b:Nat} {cs:Array Value} (h:AM w b cs) (e:w'.heap[b]?=w.heap[b]?):AM w' b cs:=by
 obtain ⟨t,h⟩:=h;exact ⟨t,e.trans h⟩
theorem AM.setCell {w:World} {b:Nat} {cs:Array Value} (h:AM w b cs) (i:Nat) (v:Value):AM (w.setCell ⟨b,i,none⟩ v) b (cs.setIfInBounds i v):=by
 obtain ⟨t,h⟩:=h;exact ⟨t,by simp [World.setCell,C5,h]⟩
theorem AM.new (w:World) (cs:Array Value) (t:TypeId):AM (w.alloc (.cells cs t)) w.heap.size cs:=⟨t,(MapKept.heap_alloc w _).1⟩
theorem AM.keeps {w w':World} {b:Nat} {cs:Array Value} {T:List Nat} (h:AM w b cs) (k:AA T w w') (hb:b∉T:=by simp):AM w' b cs:=h.of_heap (k.block b h.lt hb)
def Bt (w:World) (b:Nat) (xs:List Int):Prop:=∃ cs,AM w b cs∧∀ (i:Nat) (x:Int),xs[i]?=some x→cs[i]?=some (.int .i64 x)
theorem Bt.of_heap {w w':World} {b:Nat} {xs:List Int} (h:Bt w b xs) (e:w'.heap[b]?=w.heap[b]?):Bt w' b xs:=by
 obtain ⟨cs,h1,h2⟩:=h;exact ⟨cs,h1.of_heap e,h2⟩
theorem Bt.lt {w:World} {b:Nat} {xs:List Int} (h:Bt w b xs):b<w.heap.size:=by
 obtain ⟨cs,h1,h2⟩:=h;exact h1.lt
theorem Bt.cell {w:World} {b:Nat} {xs:List Int} (h:Bt w b xs) {i:Nat} {x:Int} (hx:xs[i]?=some x):w.cell? ⟨b,i,none⟩=some (.int .i64 x):=by
 obtain ⟨cs,h1,h2⟩:=h;rw [h1.cell,h2 i x hx]
structure SB where
 b:Nat
 bo:Nat
 bp:Nat
 rn:Nat
 ru:Nat
 rk:Nat
 co:Nat
 cp:Nat
def SB.own (B:SB):List Nat:=[B.b,B.bo,B.bp,B.rn,B.ru,B.rk]
structure Al (w:World) (B:SB) (S:ST):Prop where
 head:AM w B.b #[.slice (some ⟨B.bo,0,none⟩) S.order.length B.co,.slice (some ⟨B.bp,0,none⟩) S.place.length B.cp,.map (some B.rn),.map (some B.ru),.int .i64 S.next,.map (some B.rk)]
 order:Bt w B.bo S.order
 place:Bt w B.bp S.place
 nodes:Bo eI eT w B.rn S.N
 numbers:Bo eT eI w B.ru S.U
 known:Bo eT eI w B.rk S.K
 apart:B.own.Nodup
theorem Al.of_heap {w w':World} {B:SB} {S:ST} (h:Al w B S) (e:∀ i∈B.own,w'.heap[i]?=w.heap[i]?):Al w' B S:=
 ⟨h.head.of_heap (e _ (by simp [SB.own])),h.order.of_heap (e _ (by simp [SB.own])),h.place.of_heap (e _ (by simp [SB.own])),h.nodes.of_heap (e _ (by simp [SB.own])),h.numbers.of_heap (e _ (by simp [SB.own])),h.known.of_heap (e _ (by simp [SB.own])),h.apart⟩
theorem Al.lt {w:World} {B:SB} {S:ST} (h:Al w B S):∀ i∈B.own,i<w.heap.size:=by
 intro i hi;simp only [SB.own,AJ,BA,or_false] at hi;rcases hi with rfl | rfl | rfl | rfl | rfl | rfl
 ·exact h.head.lt
 ·exact h.order.lt
 ·exact h.place.lt
 ·exact h.nodes.lt
 ·exact h.numbers.lt
 ·exact h.known.lt
theorem Al.keeps {w w':World} {B:SB} {S:ST} {T:List Nat} (h:Al w B S) (k:AA T w w') (hT:∀ i∈B.own,i∉T:=by simp):Al w' B S:=
 h.of_heap fun i hi=>k.block i (h.lt i hi) (hT i hi)
theorem Al.drewN {w:World} {B:SB} {S:ST} (h:Al w B S) (n:Nat):Al (w.drewN n) B S:=h.of_heap fun _ _=>rfl
theorem Al.alloc {w:World} {B:SB} {S:ST} (h:Al w B S) (o:Obj):Al (w.alloc o) B S:=h.keeps (AA.alloc [] w o)
theorem Al.drew {w:World} {B:SB} {S:ST} (h:Al w B S):Al w.drew B S:=h.of_heap fun _ _=>rfl
theorem SB.own_ne {B:SB} (h:B.own.Nodup):B.b≠B.bo∧B.b≠B.bp∧B.b≠B.rn∧B.b≠B.ru∧B.b≠B.rk∧B.bo≠B.bp∧B.bo≠B.rn∧B.bo≠B.ru∧B.bo≠B.rk∧B.bp≠B.rn∧B.bp≠B.ru∧B.bp≠B.rk∧B.rn≠B.ru∧B.rn≠B.rk∧B.ru≠B.rk:=by
 simp only [SB.own,B9,AJ,BA,or_false,not_or] at h;obtain ⟨⟨h1,h2,h3,h4,h5⟩,⟨h6,h7,h8,h9⟩,⟨h10,h11,h12⟩,⟨h13,h14⟩,h15,_⟩:=h;exact ⟨h1,h2,h3,h4,h5,h6,h7,h8,h9,h10,h11,h12,h13,h14,h15⟩
theorem Al.nodesBlk {w:World} {B:SB} {S:ST} (h:Al w B S) {o:Obj} {N:List (Int×GW)} (hm:Bo eI eT (blk w B.rn o) B.rn N):Al (blk w B.rn o) B { S with N:=N }:=by
 obtain ⟨h1,h2,h3,h4,h5,h6,h7,h8,h9,h10,h11,h12,h13,h14,h15⟩:=SB.own_ne h.apart;exact ⟨h.head.of_heap (CU o h3),h.order.of_heap (CU o h7),h.place.of_heap (CU o h10),hm,h.numbers.of_heap (CU o h13.symm),h.known.of_heap (CU o h14.symm),h.apart⟩
theorem Al.numbersBlk {w:World} {B:SB} {S:ST} (h:Al w B S) {o:Obj} {U:List (GW×Int)} (hm:Bo eT eI (blk w B.ru o) B.ru U):Al (blk w B.ru o) B { S with U:=U }:=by
 obtain ⟨h1,h2,h3,h4,h5,h6,h7,h8,h9,h10,h11,h12,h13,h14,h15⟩:=SB.own_ne h.apart;exact ⟨h.head.of_heap (CU o h4),h.order.of_heap (CU o h8),h.place.of_heap (CU o h11),h.nodes.of_heap (CU o h13),hm,h.known.of_heap (CU o h15.symm),h.apart⟩
theorem Al.knownBlk {w:World} {B:SB} {S:ST} (h:Al w B S) {o:Obj} {K:List (GW×Int)} (hm:Bo eT eI (blk w B.rk o) B.rk K):Al (blk w B.rk o) B { S with K:=K }:=by
 obtain ⟨h1,h2,h3,h4,h5,h6,h7,h8,h9,h10,h11,h12,h13,h14,h15⟩:=SB.own_ne h.apart;exact ⟨h.head.of_heap (CU o h5),h.order.of_heap (CU o h9),h.place.of_heap (CU o h12),h.nodes.of_heap (CU o h14),h.numbers.of_heap (CU o h15),hm,h.apart⟩
theorem Al.nextCell {w:World} {B:SB} {S:ST} (h:Al w B S) (n:Int):Al (w.setCell ⟨B.b,4,none⟩ (.int .i64 n)) B { S with next:=n }:=by
 obtain ⟨h1,h2,h3,h4,h5,h6,h7,h8,h9,h10,h11,h12,h13,h14,h15⟩:=SB.own_ne h.apart;have e:∀ i,i≠B.b→(w.setCell ⟨B.b,4,none⟩ (.int .i64 n)).heap[i]?=w.heap[i]?:=fun i hi=>Go.RowKit.Below.heap_setCell w _ _ i hi;have hd:=h.head.setCell 4 (.int .i64 n);exact ⟨by simpa using hd,h.order.of_heap (e _ h1.symm),h.place.of_heap (e _ h2.symm),h.nodes.of_heap (e _ h3.symm),h.numbers.of_heap (e _ h4.symm),h.known.of_heap (e _ h5.symm),h.apart⟩
theorem Bt.kept {w w':World} {b:Nat} {xs:List Int} {T:List Nat} (h:Bt w b xs) (k:AA T w w') (hb:b∉T):Bt w' b xs:=h.of_heap (k.block b h.lt hb)
theorem Bo.kept {α β:Type} {ek:α→Value} {ev:β→Value} {w w':World} {r:Nat} {L:List (α×β)} {T:List Nat} (h:Bo ek ev w r L) (k:AA T w w') (hb:r∉T):Bo ek ev w' r L:=h.of_heap (k.block r h.lt hb)
theorem AI {w w':World} {base:Nat} {e:TypeId} {size n:Nat} {v:Value} {xs:List Value} {T:List Nat} (h:w.ownsRow base e size v n xs) (k:AA T w w') (hT:∀ i,v.ownBlock=some i→i∉T:=by simp):w'.ownsRow base e size v n xs:=by
 obtain ⟨h1,h2⟩:=h;refine ⟨h1,?_⟩;rcases h2 with h2 | ⟨g,cap,cur,rfl,hg,hh,r⟩
 ·exact .inl h2
 ·exact .inr ⟨g,cap,cur,rfl,hg,(k.block g (AP.1 hh).1 (hT g rfl)).trans hh,r⟩
theorem EW {w:World} {base base':Nat} {e:TypeId} {size n:Nat} {v:Value} {xs:List Value} (h:w.ownsRow base e size v n xs) (hb:base'≤base):w.ownsRow base' e size v n xs:=by
 obtain ⟨h1,h2⟩:=h;refine ⟨h1,?_⟩;rcases h2 with h2 | ⟨g,cap,cur,rfl,hg,r⟩
 ·exact .inl h2
 ·exact .inr ⟨g,cap,cur,rfl,Ai hb hg,r⟩
theorem MJ {w:World} {base g n cap:Nat} {xs:List Int} (h:w.ownsRow base 3 1 (.slice (some ⟨g,0,none⟩) n cap) n (xs.map (Value.int .i64))) {i:Nat} {x:Int} (hx:xs[i]?=some x):w.cell? ⟨g,i,none⟩=some (.int .i64 x):=by
 obtain ⟨h1,h2⟩:=h;rcases h2 with ⟨h2,_⟩ | ⟨g',cap',cur,e,hg,hh,hn,hm,hs,ht⟩
 ·cases h2
 ·cases e;have hi:i<xs.length:=(AL.1 hx).1;have e1:(cur.toList.take (n * 1))[i]?=some (.int .i64 x):=by rw [ht,AX,hx];rfl
  rw [AZ,Nat.mul_one] at h1;rw [List.getElem?_take_of_lt (by omega)] at e1;have:cur[i]?=some (.int .i64 x):=by rw [←C4];exact e1
  simp [World.cell?,hh,this]
theorem Ov {w:World} {base g n cap:Nat} {xs:List Value} (h:w.ownsRow base 3 1 (.slice (some ⟨g,0,none⟩) n cap) n xs):base≤g∧g<w.heap.size∧n≤cap∧cap≤maxLen:=by
 obtain ⟨h1,h2⟩:=h;rcases h2 with ⟨h2,_⟩ | ⟨g',cap',cur,e,hg,hh,hn,hm,hs,ht⟩
 ·cases h2
 ·cases e;exact ⟨hg,(AP.1 hh).1,hn,hm⟩
theorem MR:(prog.info? 3).map (fun i=>(i.zero,i.size,i.bytes))=some (some (.int .i64 0),1,8):=by kernel_rfl
def ints (xs:List Int):List Value:=xs.map (Value.int .i64)
theorem MQ (xs:List Int) (j:Nat) (u:Value) (h:(ints xs)[j]?=some u):∃ x,xs[j]?=some x∧u=.int .i64 x:=by
 unfold ints at h;rw [AX] at h;obtain ⟨x,hx,e⟩:=Cn.1 h;exact ⟨x,hx,e.symm⟩
theorem FV (xs:List Int):∀ u∈ints xs,u.oneCell' = true:=ints_oneCell .i64 xs
theorem grownBy_keeps' {w w':World} {row:Option Nat} (h:w.grownBy w' row) (T:List Nat) (hr:∀ r,row=some r→r∈T∨w.heap.size≤r):AA T w w':=
 ⟨h.os,h.tape,h.output,h.size,fun i hi hn=>h.block i hi (fun e=>by
  rcases hr i e.symm with x | x
  ·exact hn x
  ·omega)⟩
theorem VF {w:World} {g cap:Nat} {xs:List Int} (h:Bt w g xs) (hl:xs.length≤1000000000) :
  Calls prog 220 #[.slice (some ⟨g,0,none⟩) xs.length cap] w fun e w'=>∃ v,e=.returned v∧w'.ownsRow w.heap.size 3 1 v xs.length (ints xs)∧AA [] w w'∧v≠.slice none 0 0:=by
 obtain ⟨i0,hi,hz0,hz1,hz2⟩:=info_parts MR;have heq:=fun (w:World) (n c:Nat)=>Lib.run_eql_slice_nil (P:=prog) w 40 3 (some ⟨g,0,none⟩) n c 0 0 underlying40;have hk0:=AA.alloc [] w (.cells #[] 3)
 have hown:(w.alloc (.cells #[] 3)).ownsRow w.heap.size 3 1 (.slice (some ⟨w.heap.size,0,none⟩) 0 0) 0 []:=
  ⟨rfl,.inr ⟨w.heap.size,0,#[],rfl,AS _,(MapKept.heap_alloc w _).1,AS _,CP _,rfl,rfl⟩⟩
 have hcell:∀ (j:Nat) (u:Value),(ints xs)[j]?=some u→(w.alloc (.cells #[] 3)).cell? ((⟨g,0,none⟩:Addr).add j)=some u:=by
  intro j u hu;obtain ⟨x,hx,rfl⟩:=MQ xs j u hu;rw [Addr.add_lit,Ad];exact (h.of_heap (hk0.block g h.lt (by simp))).cell hx
 go_in
 go_wp2_with (at_builtin;refine wpList_append_own _ rfl _ _ 40 rfl w.heap.size 3 i0 (.int .i64 0) 1 8 underlying40 hi hz0 hz1 hz2 rfl (by decide) _ 0 [] rfl hown ⟨g,0,none⟩ xs.length cap (ints xs) rfl (by simp [ints]) hcell (FV xs) (by unfold maxLen;omega) (by omega) (by simp) ?_)
 intro v w1 h1 h2 h3;have H1:=AD h1;have H3:=AD h3;clear h1 h3;go_wp2
 go_ret
 refine ⟨v,rfl,by simpa using H1.out,hk0.trans_new (grownBy_keeps' h2 [w.heap.size] (fun r e=>?_)) (fun i hi=>?_),fun e=>?_⟩
 ·simp only [Value.ownBlock,BH] at e;exact .inl (by simp [e])
 ·simp only [AG] at hi;exact .inr (by omega)
 ·exact H3.out e
def FE (x:Int):Bool:=decide (97≤x) && decide (x≤122)
def FF (x:Int):Bool:=decide (65≤x) && decide (x≤90)
def CW (x:Int):Bool:=decide (48≤x) && decide (x≤57)
theorem LO {w:World} (x:Int):Calls prog 242 #[.int .u8 x] w fun e w'=>e=.returned (.bool (FE x))∧w' = w:=by
 by_cases h1:97≤x
 ·by_cases h2:x≤122
  ·have hs:FE x=true:=(by simp [FE,h1,h2]);rw [hs];go_in
   go_wp2_with fail
   go_ret
   exact ⟨rfl,rfl⟩
  ·have hs:FE x=false:=(by simp [FE,h2]);rw [hs];go_in
   go_wp2_with fail
   go_ret
   exact ⟨rfl,rfl⟩
 ·have hs:FE x=false:=by simp [FE,h1]
  rw [hs];go_in
  go_wp2_with fail
  go_ret
  exact ⟨rfl,rfl⟩
theorem QQ {w:World} (x:Int):Calls prog 244 #[.int .u8 x] w fun e w'=>e=.returned (.bool (FF x))∧w' = w:=by
 by_cases h1:65≤x
 ·by_cases h2:x≤90
  ·have hs:FF x=true:=(by simp [FF,h1,h2]);rw [hs];go_in
   go_wp2_with fail
   go_ret
   exact ⟨rfl,rfl⟩
  ·have hs:FF x=false:=(by simp [FF,h2]);rw [hs];go_in
   go_wp2_with fail
   go_ret
   exact ⟨rfl,rfl⟩
 ·have hs:FF x=false:=by simp [FF,h1]
  rw [hs];go_in
  go_wp2_with fail
  go_ret
  exact ⟨rfl,rfl⟩
theorem Il {w:World} (x:Int):Calls prog 245 #[.int .u8 x] w fun e w'=>e=.returned (.bool (CW x))∧w' = w:=by
 by_cases h1:48≤x
 ·by_cases h2:x≤57
  ·have hs:CW x=true:=(by simp [CW,h1,h2]);rw [hs];go_in
   go_wp2_with fail
   go_ret
   exact ⟨rfl,rfl⟩
  ·have hs:CW x=false:=(by simp [CW,h2]);rw [hs];go_in
   go_wp2_with fail
   go_ret
   exact ⟨rfl,rfl⟩
 ·have hs:CW x=false:=by simp [CW,h1]
  rw [hs];go_in
  go_wp2_with fail
  go_ret
  exact ⟨rfl,rfl⟩
end
end Go.Proofs.YtgjomknpjigkhaaGreatDoor
