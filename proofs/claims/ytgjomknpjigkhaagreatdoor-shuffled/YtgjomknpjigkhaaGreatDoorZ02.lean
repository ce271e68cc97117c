import Derived.Test.YtgjomknpjigkhaaGreatDoorZ00
import Derived.Test.YtgjomknpjigkhaaGreatDoorProg
import Derived.Maps.OwnSet
import Derived.Maps.RangeWalk
import Derived.WalkKit
import Derived.WalkLawsBesides
import Derived.BigQuiet
import Derived.Maps.AppendAt
import Derived.WalkSpells
namespace Go.Proofs.YtgjomknpjigkhaaGreatDoor
open Go.Proofs.Tryz
set_option maxRecDepth 100000
set_option maxHeartbeats 4000000
section
section
variable {α β:Type} [DecidableEq α]
def DD (L:List (α×β)) (k:α):Option β:=(L.find? (fun p=>decide (p.1=k))).map Prod.snd
def put (L:List (α×β)) (k:α) (v:β):List (α×β):=
 if (DD L k).isSome then L.map (fun p=>if p.1=k then (k,v) else p) else L++[(k,v)]
def del (L:List (α×β)) (k:α):List (α×β):=L.filter (fun p=>decide (p.1≠k))
theorem JL (k:α):DD ([]:List (α×β)) k=none:=rfl
theorem ER (p:α×β) (L:List (α×β)) (k:α):DD (p :: L) k=if p.1=k then some p.2 else DD L k:=by
 unfold DD;by_cases h:p.1=k <;> simp [h]
theorem JK {L:List (α×β)} {k:α}:DD L k=none↔∀ p∈L,p.1≠k:=by
 induction L with
 | nil=>simp [JL]
 | cons p L ih=>
  rw [ER];by_cases h:p.1=k
  ·simp [h]
  ·simp [h,ih]
theorem FE {L:List (α×β)} {k:α} {v:β} (h:DD L k=some v):(k,v)∈L:=by
 induction L with
 | nil=>simp [JL] at h
 | cons p L ih=>
  rw [ER] at h;by_cases hp:p.1=k
  ·simp [hp] at h;subst h;subst hp;simp
  ·simp [hp] at h;exact AP _ (ih h)
theorem We {L:List (α×β)} (hn:(L.map Prod.fst).Nodup) {k:α} {v:β} (h:(k,v)∈L):DD L k=some v:=by
 induction L with
 | nil=>simp at h
 | cons p L ih=>
  rw [ER];simp only [Au,DH] at hn;rcases AG.1 h with rfl | h
  ·simp
  ·have:p.1≠k:=fun e=>hn.1 (by rw [e];exact AM.2 ⟨_,h,rfl⟩);simp [this,ih hn.2 h]
theorem Wf (L M:List (α×β)) (k:α):DD (L++M) k=(DD L k).or (DD M k):=by
 induction L with
 | nil=>simp [JL]
 | cons p L ih=>
  rw [A8,ER,ER,ih];by_cases h:p.1=k <;> simp [h]
theorem GP (L:List (α×β)) (k:α) (v:β) (k':α):DD (put L k v) k' = if k' = k then some v else DD L k':=by
 unfold put;cases hk:(DD L k).isSome with
 | true=>
  simp only [if_true];have key:∀ M:List (α×β),DD (M.map (fun p=>if p.1=k then (k,v) else p)) k' = if k' = k then (if (DD M k).isSome then some v else none) else DD M k':=by
   intro M;induction M with
   | nil=>simp [JL]
   | cons p M ih=>
    rw [Au,ER,ih,ER,ER];by_cases hp:p.1=k
    ·simp only [hp,if_true];by_cases hkk:k=k'
     ·subst hkk;simp
     ·have:¬ k' = k:=fun e=>hkk e.symm;simp [hkk,this]
    ·simp only [hp,if_false];by_cases hpk:p.1=k'
     ·have:¬ k' = k:=fun e=>hp (hpk.trans e);simp [hpk,this]
     ·simp [hpk]
  rw [key L];simp [hk]
 | false=>
  simp only [BQ,if_false];rw [Wf,ER,JL];have hn:DD L k=none:=by simpa using hk
  by_cases h:k' = k
  ·subst h;simp [hn]
  ·have:¬ k=k':=fun e=>h e.symm;simp [h,this]
theorem Xt (L:List (α×β)) (k k':α):DD (del L k) k' = if k' = k then none else DD L k':=by
 unfold del;induction L with
 | nil=>simp [JL]
 | cons p L ih=>
  by_cases hp:p.1=k
  ·rw [BS (by simp [hp]),ih,ER];by_cases h:k' = k
   ·simp [h]
   ·have:¬ p.1=k':=fun e=>h (e.symm.trans hp);simp [h,this]
  ·rw [BO (by simp [hp]),ER,ih,ER];by_cases h:p.1=k'
   ·have:¬ k' = k:=fun e=>hp (h.trans e);simp [h,this]
   ·simp [h]
theorem cU (L:List (α×β)) (k:α) (v:β):(put L k v).map Prod.fst=if (DD L k).isSome then L.map Prod.fst else L.map Prod.fst++[k]:=by
 unfold put;cases (DD L k).isSome with
 | true=>
  simp only [if_true,CZ];apply Bn;intro p _;by_cases h:p.1=k <;> simp [h]
 | false=>simp
theorem Qg {L:List (α×β)} (hn:(L.map Prod.fst).Nodup) (k:α) (v:β):((put L k v).map Prod.fst).Nodup:=by
 rw [cU];cases hk:(DD L k).isSome with
 | true=>simpa using hn
 | false=>
  have h0:DD L k=none:=by simpa using hk
  simp only [BQ,if_false];rw [BJ];refine ⟨hn,by simp,fun a ha b hb=>?_⟩;simp only [AF] at hb;subst hb;obtain ⟨p,hp,rfl⟩:=AM.1 ha;exact JK.1 h0 p hp
theorem Qh {L:List (α×β)} (hn:(L.map Prod.fst).Nodup) (k:α):((del L k).map Prod.fst).Nodup:=
 List.Nodup.sublist (List.Sublist.map _ List.filter_sublist) hn
theorem Oz {L:List (α×β)} {k:α} (v:β) (h:DD L k=none):(put L k v).length=L.length+1:=by
 unfold put;simp [h]
theorem Rl {L:List (α×β)} (hn:(L.map Prod.fst).Nodup) {a:α} {v:β} {j:Nat} (v':β) (hj:L[j]?=some (a,v)) :
  L.map (fun p=>if p.1=a then (a,v') else p)=L.set j (a,v'):=by
 induction L generalizing j with
 | nil=>simp at hj
 | cons p L ih=>
  simp only [Au,DH] at hn;cases j with
  | zero=>
   simp only [List.getElem?_cons_zero,BD] at hj;subst hj;simp only [Au,if_true,AS,CH,true_and];conv=>rhs;rw [←List.map_id L]
   apply Bn;intro q hq;have:q.1≠a:=fun e=>hn.1 (by rw [←e];exact AM.2 ⟨_,hq,rfl⟩);simp [this]
  | succ j=>
   simp only [List.getElem?_cons_succ] at hj;have:p.1≠a:=fun e=>hn.1 (by rw [e];exact AM.2 ⟨_,AE hj,rfl⟩);simp only [Au,this,if_false,AR,ih hn.2 hj]
theorem PG {L:List (α×β)} (hn:(L.map Prod.fst).Nodup) {a:α} {v:β} {j:Nat} (hj:L[j]?=some (a,v)):del L a=L.eraseIdx j:=by
 unfold del;induction L generalizing j with
 | nil=>simp at hj
 | cons p L ih=>
  simp only [Au,DH] at hn;cases j with
  | zero=>
   simp only [List.getElem?_cons_zero,BD] at hj;subst hj;rw [BS (by simp),List.eraseIdx_cons_zero,List.filter_eq_self];intro q hq;have:q.1≠a:=fun e=>hn.1 (by rw [←e];exact AM.2 ⟨_,hq,rfl⟩);simpa using this
  | succ j=>
   simp only [List.getElem?_cons_succ] at hj;have:p.1≠a:=fun e=>hn.1 (by rw [e];exact AM.2 ⟨_,AE hj,rfl⟩);rw [BO (by simpa using this),List.eraseIdx_cons_succ,ih hn.2 hj]
theorem PH {L:List (α×β)} {a:α} (h:DD L a=none):del L a=L:=by
 unfold del;rw [List.filter_eq_self];intro q hq;simpa using JK.1 h q hq
end
abbrev GK:=Int×Int×Int
structure ST where
 order:List Int
 place:List Int
 N:List (Int×GK)
 U:List (GK×Int)
 next:Int
 K:List (GK×Int)
def ST.n (S:ST):Nat:=S.order.length
def ST.pl (S:ST) (v:Int):Int:=(S.place[v.toNat]?).getD 0
def ST.lev (S:ST) (f:Int):Int:=if f≤1 then S.n else match DD S.N f with | some t=>S.pl t.1 | none=>0
def ST.ok (S:ST) (f:Int):Prop:=f=0∨f=1∨(2≤f∧∃ t,DD S.N f=some t)
structure X6 (order place:List Int):Prop where
 len:place.length=order.length
 op:∀ (i:Nat) (v:Int),order[i]?=some v→0≤v∧v<order.length∧place[v.toNat]?=some (i:Int)
 po:∀ (v:Nat) (p:Int),place[v]?=some p→0≤p∧p<order.length∧order[p.toNat]?=some (v:Int)
structure WF (S:ST):Prop where
 ord:X6 S.order S.place
 two:2≤S.next
 node:∀ f v l h,DD S.N f=some (v,l,h)→2≤f∧f<S.next∧0≤v∧v<S.n∧l≠h∧S.ok l∧S.ok h∧S.pl v<S.lev l∧S.pl v<S.lev h
 inv:∀ t f,DD S.U t=some f↔DD S.N f=some t
def ev (N:List (Int×GK)):Nat→Int→(Int→Bool)→Bool
 | 0,f,_=>decide (f=1)
 | k+1,f,σ=>if f≤1 then decide (f=1) else match DD N f with
  | none=>false
  | some t=>if σ t.1 then ev N k t.2.2 σ else ev N k t.2.1 σ
def ST.den (S:ST) (f:Int) (σ:Int→Bool):Bool:=ev S.N S.n f σ
section
variable {S:ST}
theorem WF.pl_range (h:WF S) {v:Int} (h0:0≤v) (h1:v<S.n):0≤S.pl v∧S.pl v<S.n∧S.order[(S.pl v).toNat]?=some v∧S.place[v.toNat]?=some (S.pl v):=by
 have hl:v.toNat<S.place.length:=by rw [h.ord.len];unfold ST.n at h1;omega
 have e:S.place[v.toNat]?=some (S.place[v.toNat]):=AB hl;obtain ⟨a,b,c⟩:=h.ord.po _ _ e;have ep:S.pl v=S.place[v.toNat]:=by unfold ST.pl;rw [e];rfl
 rw [ep];refine ⟨a,b,?_,e⟩;rw [c];congr 1;omega
theorem WF.pl_inj (h:WF S) {u v:Int} (u0:0≤u) (u1:u<S.n) (v0:0≤v) (v1:v<S.n) (e:S.pl u=S.pl v):u=v:=by
 obtain ⟨_,_,a,_⟩:=h.pl_range u0 u1;obtain ⟨_,_,b,_⟩:=h.pl_range v0 v1;rw [e,b] at a;exact (Ar a).symm
theorem Eu {f:Int} (h:f≤1):S.lev f=S.n:=by simp [ST.lev,h]
theorem Cw (hw:WF S) {f:Int} {t:GK} (h:DD S.N f=some t):S.lev f=S.pl t.1:=by
 obtain ⟨v,l,r⟩:=t;have:=(hw.node f v l r h).1;have:¬ f≤1:=by omega
 simp [ST.lev,this,h]
theorem Be (hw:WF S) {f:Int} (h:S.ok f):0≤S.lev f∧S.lev f≤S.n:=by
 rcases h with rfl | rfl | ⟨_,t,ht⟩
 ·rw [Eu (by omega)];omega
 ·rw [Eu (by omega)];omega
 ·rw [Cw hw ht];obtain ⟨v,l,r⟩:=t;obtain ⟨_,_,a,b,_⟩:=hw.node f v l r ht;have:=hw.pl_range a b;dsimp only;exact ⟨this.1,by omega⟩
theorem DE (hw:WF S) {f:Int} (h:S.ok f):S.lev f<S.n↔2≤f:=by
 rcases h with rfl | rfl | ⟨h2,t,ht⟩
 ·rw [Eu (by omega)];omega
 ·rw [Eu (by omega)];omega
 ·rw [Cw hw ht];obtain ⟨v,l,r⟩:=t;obtain ⟨_,_,a,b,_⟩:=hw.node f v l r ht;have:=hw.pl_range a b;exact ⟨fun _=>h2,fun _=>this.2.1⟩
theorem MI (hw:WF S):∀ (k:Nat) (f:Int) (σ:Int→Bool),S.ok f→(S.n:Int) - S.lev f≤k→ev S.N (k+1) f σ=ev S.N k f σ
 | 0,f,σ,hf,hk=>by
  rcases hf with rfl | rfl | ⟨h2,t,ht⟩
  ·simp [ev]
  ·simp [ev]
  ·exfalso;have:=(DE hw (.inr (.inr ⟨h2,t,ht⟩))).2 h2;omega
 | k+1,f,σ,hf,hk=>by
  rcases hf with rfl | rfl | ⟨h2,t,ht⟩
  ·simp [ev]
  ·simp [ev]
  ·have h1:¬ f≤1:=(by omega);obtain ⟨v,l,r⟩:=t;have hn:=hw.node f v l r ht;rw [Cw hw ht] at hk;dsimp only at hk;rw [ev,ev];simp only [h1,if_false,ht];rw [MI hw k r σ hn.2.2.2.2.2.2.1 (by omega),MI hw k l σ hn.2.2.2.2.2.1 (by omega)]
theorem ZV (hw:WF S) {k:Nat} {f:Int} (σ:Int→Bool) (hf:S.ok f) (hk:(S.n:Int) - S.lev f≤k):∀ (m:Nat),ev S.N (k+m) f σ=ev S.N k f σ
 | 0=>rfl
 | m+1=>by rw [←Nat.add_assoc,MI hw (k+m) f σ hf (by omega),ZV hw σ hf hk m]
theorem CI (σ:Int→Bool):S.den 0 σ=false:=by unfold ST.den;cases S.n <;> simp [ev]
theorem Dq (σ:Int→Bool):S.den 1 σ=true:=by unfold ST.den;cases S.n <;> simp [ev]
theorem Cg (hw:WF S) {f v l h:Int} (ht:DD S.N f=some (v,l,h)) (σ:Int→Bool):S.den f σ=if σ v then S.den h σ else S.den l σ:=by
 have hn:=hw.node f v l h ht;have hp:=hw.pl_range hn.2.2.1 hn.2.2.2.1;have h1:¬ f≤1:=by omega
 unfold ST.den;obtain ⟨m,hm⟩:∃ m,S.n=m+1:=⟨S.n - 1,by omega⟩;have el:ev S.N S.n l σ=ev S.N m l σ:=by rw [hm];exact MI hw m l σ hn.2.2.2.2.2.1 (by omega)
 have eh:ev S.N S.n h σ=ev S.N m h σ:=by rw [hm];exact MI hw m h σ hn.2.2.2.2.2.2.1 (by omega)
 rw [el,eh,hm,ev];simp only [h1,if_false,ht]
theorem NO (hw:WF S) {p:Int→Prop} (p0:p 0) (p1:p 1) (step:∀ f v l h,DD S.N f=some (v,l,h)→S.ok l→S.ok h→p l→p h→p f):∀ f,S.ok f→p f:=by
 have key:∀ (m:Nat) (f:Int),S.ok f→(S.n:Int) - S.lev f≤m→p f:=by
  intro m;induction m with
  | zero=>
   intro f hf hm;rcases hf with rfl | rfl | ⟨h2,t,ht⟩
   ·exact p0
   ·exact p1
   ·exfalso;have:=(DE hw (.inr (.inr ⟨h2,t,ht⟩))).2 h2;omega
  | succ m ih=>
   intro f hf hm;rcases hf with rfl | rfl | ⟨h2,t,ht⟩
   ·exact p0
   ·exact p1
   ·obtain ⟨v,l,h⟩:=t;have hn:=hw.node f v l h ht;rw [Cw hw ht] at hm;dsimp only at hm;exact step f v l h ht hn.2.2.2.2.2.1 hn.2.2.2.2.2.2.1 (ih l hn.2.2.2.2.2.1 (by omega)) (ih h hn.2.2.2.2.2.2.1 (by omega))
 intro f hf;exact key S.n f hf (by have:=(Be hw hf).1;omega)
theorem Qr (hw:WF S) {f:Int} (hf:S.ok f):∀ (σ τ:Int→Bool),(∀ v:Int,0≤v→v<S.n→S.lev f≤S.pl v→σ v=τ v)→S.den f σ=S.den f τ:=by
 refine NO hw (p:=fun f=>∀ (σ τ:Int→Bool),(∀ v:Int,0≤v→v<S.n→S.lev f≤S.pl v→σ v=τ v)→S.den f σ=S.den f τ) ?_ ?_ ?_ f hf
 ·intro σ τ _;rw [CI,CI]
 ·intro σ τ _;rw [Dq,Dq]
 ·intro f v l h ht hl hh il ih σ τ hst;have hn:=hw.node f v l h ht;rw [Cw hw ht] at hst;dsimp only at hst;rw [Cg hw ht,Cg hw ht,hst v hn.2.2.1 hn.2.2.2.1 (Cl _)];rw [ih σ τ (fun u u0 u1 u2=>hst u u0 u1 (by omega)),il σ τ (fun u u0 u1 u2=>hst u u0 u1 (by omega))]
def Kr (σ:Int→Bool) (v:Int) (b:Bool):Int→Bool:=fun u=>if u=v then b else σ u
theorem CN (hw:WF S) {f v:Int} (hf:S.ok f) (v0:0≤v) (v1:v<S.n) (hv:S.pl v<S.lev f) (σ:Int→Bool) (b:Bool):S.den f (Kr σ v b)=S.den f σ:=
 Qr hw hf _ _ fun u u0 u1 u2=>by
  have:u≠v:=fun e=>by subst e;omega
  simp [Kr,this]
theorem canon (hw:WF S):∀ (m:Nat) (f g:Int),S.ok f→S.ok g→(S.n:Int) - S.lev f≤m∧(S.n:Int) - S.lev g≤m→(∀ σ,S.den f σ=S.den g σ)→f=g:=by
 intro m;induction m with
 | zero=>
  intro f g hf hg hm he;have a:=Be hw hf;have b:=Be hw hg;have f2:¬ 2≤f:=fun h=>by have:=(DE hw hf).2 h;omega
  have g2:¬ 2≤g:=fun h=>by have:=(DE hw hg).2 h;omega
  have:=he (fun _=>true);rcases hf with rfl | rfl | ⟨h2,_⟩
  ·rcases hg with rfl | rfl | ⟨h2,_⟩
   ·rfl
   ·rw [CI,Dq] at this;cases this
   ·exact absurd h2 g2
  ·rcases hg with rfl | rfl | ⟨h2,_⟩
   ·rw [CI,Dq] at this;cases this
   ·rfl
   ·exact absurd h2 g2
  ·exact absurd h2 f2
 | succ m ih=>
  intro f g hf hg hm he;have a:=Be hw hf;have b:=Be hw hg;have strict:∀ f g,S.ok f→S.ok g→S.lev f<S.lev g→(S.n:Int) - S.lev f≤m+1∧(S.n:Int) - S.lev g≤m+1→(∀ σ,S.den f σ=S.den g σ)→False:=by
   intro f g hf hg hlt hm he;have b:=Be hw hg;have f2:=(DE hw hf).1 (by omega);rcases hf with rfl | rfl | ⟨_,t,ht⟩
   ·omega
   ·omega
   ·obtain ⟨v,l,h⟩:=t;have hn:=hw.node f v l h ht;rw [Cw hw ht] at hlt hm;dsimp only at hlt hm;obtain ⟨_,_,v0,v1,lh,okl,okh,pll,plh⟩:=hn;have hll:=Be hw okl;have hlh:=Be hw okh;refine lh (ih l h okl okh (by omega) fun σ=>?_);have e1:=he (Kr σ v false);have e2:=he (Kr σ v true);rw [Cg hw ht,CN hw hg v0 v1 hlt] at e1 e2;rw [show Kr σ v false v=false by simp [Kr]] at e1;rw [show Kr σ v true v=true by simp [Kr],if_pos rfl] at e2;have e3:=CN hw okl v0 v1 pll σ false;have e4:=CN hw okh v0 v1 plh σ true;simp only [BQ,if_false] at e1;rw [e3] at e1;rw [e4] at e2;rw [e1,e2]
  rcases Int.lt_trichotomy (S.lev f) (S.lev g) with hlt | heq | hgt
  ·exact (strict f g hf hg hlt hm he).elim
  ·by_cases f2:2≤f
   ·have hfl:=(DE hw hf).2 f2;have g2:=(DE hw hg).1 (by omega);rcases hf with rfl | rfl | ⟨_,t,ht⟩
    ·omega
    ·omega
    rcases hg with rfl | rfl | ⟨_,u,hu⟩
    ·omega
    ·omega
    obtain ⟨v,l,h⟩:=t;obtain ⟨v',l',h'⟩:=u;have hn:=hw.node f v l h ht;have hn':=hw.node g v' l' h' hu;rw [Cw hw ht,Cw hw hu] at heq;rw [Cw hw ht,Cw hw hu] at hm;dsimp only at heq hm;obtain ⟨_,_,v0,v1,lh,okl,okh,pll,plh⟩:=hn;obtain ⟨_,_,v0',v1',lh',okl',okh',pll',plh'⟩:=hn';have ev:=hw.pl_inj v0 v1 v0' v1' heq;subst ev;have hll:=Be hw okl;have hlh:=Be hw okh;have hll':=Be hw okl';have hlh':=Be hw okh';have el:l=l':=ih l l' okl okl' (by omega) fun σ=>by
     have e1:=he (Kr σ v false);rw [Cg hw ht,Cg hw hu] at e1;have e3:=CN hw okl v0 v1 pll σ false;have e4:=CN hw okl' v0 v1 pll' σ false;rw [←e3,←e4];simpa [Kr] using e1
    have eh:h=h':=ih h h' okh okh' (by omega) fun σ=>by
     have e1:=he (Kr σ v true);rw [Cg hw ht,Cg hw hu] at e1;have e3:=CN hw okh v0 v1 plh σ true;have e4:=CN hw okh' v0 v1 plh' σ true;rw [←e3,←e4];simpa [Kr] using e1
    subst el;subst eh;have i1:=(hw.inv _ _).2 ht;have i2:=(hw.inv _ _).2 hu;rw [i1] at i2;exact Ar i2
   ·have g2:¬ 2≤g:=fun h=>by
     have:=(DE hw hg).2 h;have:=(DE hw hf).1 (by omega);omega
    have:=he (fun _=>true);rcases hf with rfl | rfl | ⟨h2,_⟩
    ·rcases hg with rfl | rfl | ⟨h2,_⟩
     ·rfl
     ·rw [CI,Dq] at this;cases this
     ·exact absurd h2 g2
    ·rcases hg with rfl | rfl | ⟨h2,_⟩
     ·rw [CI,Dq] at this;cases this
     ·rfl
     ·exact absurd h2 g2
    ·exact absurd h2 f2
  ·exact (strict g f hg hf hgt (by omega) fun σ=>(he σ).symm).elim
theorem Xx (hw:WF S) {f g:Int} (hf:S.ok f) (hg:S.ok g) (he:∀ σ,S.den f σ=S.den g σ):f=g:=
 canon hw S.n f g hf hg ⟨by have:=(Be hw hf).1;omega,by have:=(Be hw hg).1;omega⟩ he
structure Sub (S S':ST):Prop where
 order:S'.order=S.order
 place:S'.place=S.place
 next:S.next≤S'.next
 node:∀ f t,DD S.N f=some t→DD S'.N f=some t
theorem Sub.refl (S:ST):Sub S S:=⟨rfl,rfl,Cl _,fun _ _ h=>h⟩
theorem Sub.trans {A B C:ST} (h:Sub A B) (k:Sub B C):Sub A C:=⟨k.order.trans h.order,k.place.trans h.place,Int.le_trans h.next k.next,fun f t ht=>k.node f t (h.node f t ht)⟩
variable {S':ST}
theorem Sub.n (h:Sub S S'):S'.n=S.n:=by unfold ST.n;rw [h.order]
theorem Sub.pl (h:Sub S S') (v:Int):S'.pl v=S.pl v:=by unfold ST.pl;rw [h.place]
theorem Sub.ok (h:Sub S S') {f:Int} (hf:S.ok f):S'.ok f:=by
 rcases hf with h0 | h0 | ⟨h2,t,ht⟩
 ·exact .inl h0
 ·exact .inr (.inl h0)
 ·exact .inr (.inr ⟨h2,t,h.node f t ht⟩)
theorem Sub.lev (h:Sub S S') {f:Int} (hf:S.ok f):S'.lev f=S.lev f:=by
 rcases hf with rfl | rfl | ⟨h2,t,ht⟩
 ·rw [Eu (by omega),Eu (by omega),h.n]
 ·rw [Eu (by omega),Eu (by omega),h.n]
 ·have:¬ f≤1:=by omega
  simp only [ST.lev,this,if_false,ht,h.node f t ht,h.pl]
theorem Sub.den (h:Sub S S') (hw:WF S) (hw':WF S') {f:Int} (hf:S.ok f) (σ:Int→Bool):S'.den f σ=S.den f σ:=by
 refine NO hw (p:=fun f=>S'.den f σ=S.den f σ) ?_ ?_ ?_ f hf
 ·rw [CI,CI]
 ·rw [Dq,Dq]
 ·intro f v l h' ht _ _ il ih;rw [Cg hw ht,Cg hw' (h.node _ _ ht),il,ih]
end
structure EK (S S':ST):Prop extends Sub S S' where
 len:(S'.N.length:Int) - S'.next=(S.N.length:Int) - S.next
theorem EK.refl (S:ST):EK S S:=⟨Sub.refl S,rfl⟩
theorem EK.trans {A B C:ST} (h:EK A B) (k:EK B C):EK A C:=⟨h.toSub.trans k.toSub,k.len.trans h.len⟩
def ST.add (S:ST) (t:GK):ST:={ S with N:=put S.N S.next t,U:=put S.U t S.next,next:=S.next+1 }
theorem X4 {S:ST} (hw:WF S) (t:GK):EK S (S.add t):=by
 have hnone:DD S.N S.next=none:=by
  cases hg:DD S.N S.next with
  | none=>rfl
  | some u=>obtain ⟨a,b,c⟩:=u;have:=hw.node _ a b c hg;omega
 refine ⟨⟨rfl,rfl,by simp [ST.add];omega,fun f u hu=>?_⟩,?_⟩
 ·obtain ⟨v,l,h⟩:=u;have:=hw.node f v l h hu;have hne:f≠S.next:=by omega
  simp [ST.add,GP,hne,hu]
 ·have e:=Oz t hnone;simp only [ST.add];rw [e];omega
theorem mT {S:ST} (hw:WF S) {v l h:Int} (v0:0≤v) (v1:v<S.n) (hlh:l≠h) (okl:S.ok l) (okh:S.ok h) (pl:S.pl v<S.lev l) (ph:S.pl v<S.lev h) (hnew:DD S.U (v,l,h)=none) :
  WF (S.add (v,l,h))∧DD (S.add (v,l,h)).N S.next=some (v,l,h):=by
 have hx:=X4 hw (v,l,h);have hat:DD (S.add (v,l,h)).N S.next=some (v,l,h):=by simp [ST.add,GP]
 have hnone:DD S.N S.next=none:=by
  cases hg:DD S.N S.next with
  | none=>rfl
  | some u=>obtain ⟨a,b,c⟩:=u;have:=hw.node _ a b c hg;omega
 refine ⟨⟨hw.ord,by have:=hw.two;simp [ST.add];omega,?_,?_⟩,hat⟩
 ·intro f a b c hg;have hn:(S.add (v,l,h)).n=S.n:=rfl;have hp:∀ u,(S.add (v,l,h)).pl u=S.pl u:=fun _=>rfl;have hnx:(S.add (v,l,h)).next=S.next+1:=rfl;by_cases hf:f=S.next
  ·subst hf;rw [hat] at hg;have e:=Ar hg;simp only [Prod.mk.injEq] at e;obtain ⟨rfl,rfl,rfl⟩:=e;rw [hn,hp,hx.lev okl,hx.lev okh,hnx];exact ⟨hw.two,by omega,v0,v1,hlh,hx.ok okl,hx.ok okh,pl,ph⟩
  ·have hg':DD S.N f=some (a,b,c):=(by simpa [ST.add,GP,hf] using hg);obtain ⟨x1,x2,x3,x4,x5,x6,x7,x8,x9⟩:=hw.node f a b c hg';rw [hn,hp,hx.lev x6,hx.lev x7,hnx];exact ⟨x1,by omega,x3,x4,x5,hx.ok x6,hx.ok x7,x8,x9⟩
 ·intro t f;simp only [ST.add,GP];by_cases ht:t=(v,l,h)
  ·subst ht;simp only [if_true,BD];constructor
   ·intro e;subst e;simp
   ·intro e;by_cases hf:f=S.next
    ·exact hf.symm
    ·simp only [hf,if_false] at e;rw [(hw.inv _ _).2 e] at hnew;cases hnew
  ·simp only [ht,if_false];rw [hw.inv];by_cases hf:f=S.next
   ·subst hf;rw [hnone];simp only [if_true,BD];exact ⟨fun e=>(nomatch e),fun e=>absurd e.symm ht⟩
   ·simp [hf]
def ST.cof (S:ST) (f u:Int):Int×Int:=match DD S.N f with
 | some t=>if 1<f∧t.1=u then (t.2.1,t.2.2) else (f,f)
 | none=>(f,f)
theorem Sa {S:ST} (hw:WF S) {f:Int} (u:Int) (hf:f≤1):S.cof f u=(f,f):=by
 unfold ST.cof;cases hg:DD S.N f with
 | none=>rfl
 | some t=>obtain ⟨a,b,c⟩:=t;have:=hw.node f a b c hg;omega
theorem MK {S:ST} (hw:WF S) {f u:Int} (hf:S.ok f) (u0:0≤u) (u1:u<S.n) (hu:S.pl u≤S.lev f) :
  S.ok (S.cof f u).1∧S.ok (S.cof f u).2∧S.pl u<S.lev (S.cof f u).1∧S.pl u<S.lev (S.cof f u).2∧S.lev f≤S.lev (S.cof f u).1∧S.lev f≤S.lev (S.cof f u).2 ∧
   ∀ σ,S.den f σ=if σ u then S.den (S.cof f u).2 σ else S.den (S.cof f u).1 σ:=by
 have hpu:=hw.pl_range u0 u1;by_cases hlow:f≤1
 ·rw [Sa hw u hlow,Eu hlow];exact ⟨hf,hf,hpu.2.1,hpu.2.1,Cl _,Cl _,fun σ=>by simp⟩
 ·have hf':=hf;rcases hf' with rfl | rfl | ⟨h2,⟨v,l,h⟩,ht⟩
  ·omega
  ·omega
  obtain ⟨x1,x2,x3,x4,x5,x6,x7,x8,x9⟩:=hw.node f v l h ht;have hl:=Cw hw ht;dsimp only at hl;by_cases hv:v=u
  ·subst hv;have e:S.cof f v=(l,h):=by
    have:1<f:=(by omega);simp [ST.cof,ht,this]
   rw [e,hl];exact ⟨x6,x7,x8,x9,by dsimp only;omega,by dsimp only;omega,fun σ=>Cg hw ht σ⟩
  ·have e:S.cof f u=(f,f):=(by simp [ST.cof,ht,hv]);have hne:S.pl u≠S.lev f:=fun e2=>hv (hw.pl_inj x3 x4 u0 u1 (by rw [←hl,e2]));rw [e];exact ⟨hf,hf,by dsimp only;omega,by dsimp only;omega,Cl _,Cl _,fun σ=>by simp⟩
def Jj (S:ST):Prop:=∀ f g h r,DD S.K (f,g,h)=some r→S.ok f∧S.ok g∧S.ok h∧S.ok r∧(∀ σ,S.den r σ=if S.den f σ then S.den g σ else S.den h σ) ∧
 ∀ m,m≤S.lev f→m≤S.lev g→m≤S.lev h→m≤S.lev r
theorem Jj.ext {S S':ST} (h:Jj S) (x:EK S S') (hw:WF S) (hw':WF S') (e:S'.K=S.K):Jj S':=by
 intro f g k r hg;rw [e] at hg;obtain ⟨a,b,c,d,den,lv⟩:=h f g k r hg;refine ⟨x.ok a,x.ok b,x.ok c,x.ok d,fun σ=>?_,fun m=>?_⟩
 ·rw [x.den hw hw' d,x.den hw hw' a,x.den hw hw' b,x.den hw hw' c];exact den σ
 ·rw [x.lev a,x.lev b,x.lev c,x.lev d];exact lv m
def Ge:Nat→Int
 | 0=>0
 | k+1=>2 * Ge k+1
theorem EX:∀ k,0≤Ge k
 | 0=>by simp [Ge]
 | k+1=>by have:=EX k;simp only [Ge];omega
theorem dZ {j k:Nat} (h:j≤k):Ge j≤Ge k:=by
 induction h with
 | refl=>exact Cl _
 | step h ih=>rename_i m;have:=EX m;simp only [Ge];omega
structure Kl (S S':ST) (v l h r:Int):Prop where
 ext:EK S S'
 wf:WF S'
 known:S'.K=S.K
 ok:S'.ok r
 den:∀ σ,S'.den r σ=if σ v then S.den h σ else S.den l σ
 next:S'.next≤S.next+1
 lev:∀ m,m≤S.pl v→m≤S.lev l→m≤S.lev h→m≤S'.lev r
theorem Ry {S:ST} (hw:WF S) (v l:Int) (okl:S.ok l):Kl S S v l l l:=
 ⟨EK.refl S,hw,rfl,okl,fun σ=>by simp,by omega,fun m _ h _=>h⟩
theorem Pz {S:ST} (hw:WF S) {v l h f:Int} (hg:DD S.U (v,l,h)=some f):Kl S S v l h f:=by
 have ht:=(hw.inv _ _).1 hg;have hn:=hw.node f v l h ht;exact ⟨EK.refl S,hw,rfl,.inr (.inr ⟨hn.1,_,ht⟩),fun σ=>Cg hw ht σ,by omega,fun m h1 _ _=>by rw [Cw hw ht];exact h1⟩
theorem Tz {S:ST} (hw:WF S) {v l h:Int} (v0:0≤v) (v1:v<S.n) (hlh:l≠h) (okl:S.ok l) (okh:S.ok h) (pl:S.pl v<S.lev l) (ph:S.pl v<S.lev h) (hnew:DD S.U (v,l,h)=none) :
  Kl S (S.add (v,l,h)) v l h S.next:=by
 obtain ⟨hw',hat⟩:=mT hw v0 v1 hlh okl okh pl ph hnew;have hx:=X4 hw (v,l,h);refine ⟨hx,hw',rfl,.inr (.inr ⟨hw.two,_,hat⟩),fun σ=>?_,Cl _,fun m h1 _ _=>?_⟩
 ·rw [Cg hw' hat,hx.den hw hw' okl,hx.den hw hw' okh]
 ·rw [Cw hw' hat,hx.pl];exact h1
structure JT (S S':ST) (f g h r:Int) (k:Nat):Prop where
 ext:EK S S'
 wf:WF S'
 known:Jj S'
 ok:S'.ok r
 den:∀ σ,S'.den r σ=if S.den f σ then S.den g σ else S.den h σ
 next:S'.next≤S.next+Ge k
 lev:∀ m,m≤S.lev f→m≤S.lev g→m≤S.lev h→m≤S'.lev r
theorem P6 {S:ST} (hw:WF S) (hk:Jj S) {f g h r:Int} (k:Nat) (okr:S.ok r) (den:∀ σ,S.den r σ=if S.den f σ then S.den g σ else S.den h σ)
  (lev:∀ m,m≤S.lev f→m≤S.lev g→m≤S.lev h→m≤S.lev r):JT S S f g h r k:=
 ⟨EK.refl S,hw,hk,okr,den,by have:=EX k;omega,lev⟩
def ST.withK (S:ST) (K:List (GK×Int)):ST:={ S with K:=K }
theorem OF {S:ST} (h:WF S) (K:List (GK×Int)):WF (S.withK K):=⟨h.ord,h.two,h.node,h.inv⟩
theorem YG {S S':ST} (h:EK S S') (K:List (GK×Int)):EK S (S'.withK K):=⟨⟨h.order,h.place,h.next,h.node⟩,h.len⟩
structure Cof (S:ST) (f top f0 f1:Int):Prop where
 ok0:S.ok f0
 ok1:S.ok f1
 lt0:S.pl top<S.lev f0
 lt1:S.pl top<S.lev f1
 le0:S.lev f≤S.lev f0
 le1:S.lev f≤S.lev f1
 den:∀ σ,S.den f σ=if σ top then S.den f1 σ else S.den f0 σ
theorem SE {S S1 S2 S3:ST} (hw:WF S) {f g h top f0 f1 g0 g1 h0 h1 r0 r1 x:Int} {k:Nat} (okf:S.ok f) (okg:S.ok g) (okh:S.ok h)
  (hm:min (min (S.lev f) (S.lev g)) (S.lev h)≤S.pl top) (cf:Cof S f top f0 f1) (cg:Cof S g top g0 g1) (ch:Cof S h top h0 h1)
  (p0:JT S S1 f0 g0 h0 r0 k) (p1:JT S1 S2 f1 g1 h1 r1 k) (p2:Kl S2 S3 top r0 r1 x):JT S (S3.withK (put S3.K (f,g,h) x)) f g h x (k+1):=by
 have x1:=p0.ext;have x2:=x1.trans p1.ext;have x3:=x2.trans p2.ext;have den:∀ σ,S3.den x σ=if S.den f σ then S.den g σ else S.den h σ:=by
  intro σ;rw [p2.den,p1.den,p1.ext.den p0.wf p1.wf p0.ok,p0.den,x1.den hw p0.wf cf.ok1,x1.den hw p0.wf cg.ok1,x1.den hw p0.wf ch.ok1,cf.den,cg.den,ch.den];cases σ top <;> simp
 have lev:∀ m,m≤S.lev f→m≤S.lev g→m≤S.lev h→m≤S3.lev x:=by
  intro m hf hg hh;have a0:=p0.lev m (Int.le_trans hf cf.le0) (Int.le_trans hg cg.le0) (Int.le_trans hh ch.le0);have a1:=p1.lev m (by rw [x1.lev cf.ok1];exact Int.le_trans hf cf.le1) (by rw [x1.lev cg.ok1];exact Int.le_trans hg cg.le1) (by rw [x1.lev ch.ok1];exact Int.le_trans hh ch.le1);refine p2.lev m ?_ (by rw [p1.ext.lev p0.ok];exact a0) a1;rw [x2.pl];omega
 refine ⟨YG x3 _,OF p2.wf _,?_,p2.ok,den,?_,lev⟩
 ·have hk3:Jj S3:=p1.known.ext p2.ext p1.wf p2.wf p2.known;intro a b c r hg;show S3.ok a∧S3.ok b∧S3.ok c∧S3.ok r∧(∀ σ,S3.den r σ=if S3.den a σ then S3.den b σ else S3.den c σ)∧∀ m,m≤S3.lev a→m≤S3.lev b→m≤S3.lev c→m≤S3.lev r;have hg':(if (a,b,c)=(f,g,h) then some x else DD S3.K (a,b,c))=some r:=by rw [←GP];exact hg
  by_cases e:(a,b,c)=(f,g,h)
  ·rw [if_pos e] at hg';simp only [Prod.mk.injEq] at e;obtain ⟨rfl,rfl,rfl⟩:=e;have e2:=Ar hg';subst e2;refine ⟨x3.ok okf,x3.ok okg,x3.ok okh,p2.ok,fun σ=>?_,fun m=>?_⟩
   ·rw [den,x3.den hw p2.wf okf,x3.den hw p2.wf okg,x3.den hw p2.wf okh]
   ·rw [x3.lev okf,x3.lev okg,x3.lev okh];exact lev m
  ·rw [if_neg e] at hg';exact hk3 a b c r hg'
 ·show S3.next≤S.next+Ge (k+1);have a:=p0.next;have b:=p1.next;have c:=p2.next;simp only [Ge];omega
def KJ (a v:Int):Bool:=decide (a / 2 ^ v.toNat % 2=1)
def Pn (X:Int) (S:ST) (f r:Int):Prop:=S.ok r∧S.lev f≤S.lev r ∧
 ∀ σ,S.den r σ=true↔∃ τ:Int→Bool,(∀ v:Int,0≤v→v<S.n→KJ X v=false→τ v=σ v)∧S.den f τ=true
theorem Pn.mono {X:Int} (S S':ST) (f r:Int) (okf:S.ok f) (x:EK S S') (hw:WF S) (hw':WF S') (h:Pn X S f r):Pn X S' f r:=by
 obtain ⟨a,b,c⟩:=h;refine ⟨x.ok a,by rw [x.lev okf,x.lev a];exact b,fun σ=>?_⟩;rw [x.den hw hw' a,c,x.n];constructor
 ·rintro ⟨τ,h1,h2⟩;exact ⟨τ,h1,by rw [x.den hw hw' okf];exact h2⟩
 ·rintro ⟨τ,h1,h2⟩;exact ⟨τ,h1,by rw [x.den hw hw' okf] at h2;exact h2⟩
theorem Pn.const (X:Int) (S:ST) {f:Int} (h:f=0∨f=1):Pn X S f f:=by
 refine ⟨by rcases h with rfl | rfl <;> simp [ST.ok],Cl _,fun σ=>?_⟩;rcases h with rfl | rfl
 ·simp [CI]
 ·simp only [Dq,true_iff];exact ⟨σ,fun _ _ _ _=>rfl,trivial⟩
theorem Lp (σ:Int→Bool) (v:Int) (b:Bool):Kr σ v b v=b:=by simp [Kr]
theorem OH (σ:Int→Bool) {v u:Int} (b:Bool) (h:u≠v):Kr σ v b u=σ u:=by simp [Kr,h]
theorem Pn.bit {X:Int} {S S':ST} {f v l h rl rh r:Int} (hw:WF S) (hw':WF S') (x:EK S S') (ht:DD S.N f=some (v,l,h)) (hb:KJ X v=true) (al:Pn X S l rl) (ah:Pn X S h rh)
  (ok:S'.ok r) (den:∀ σ,S'.den r σ=(S.den rl σ || S.den rh σ)) (lev:min (S.lev rl) (S.lev rh)≤S'.lev r):Pn X S' f r:=by
 obtain ⟨x1,x2,v0,v1,x5,okl,okh,pll,plh⟩:=hw.node f v l h ht;have okf:S.ok f:=.inr (.inr ⟨x1,_,ht⟩);have hlf:=Cw hw ht;dsimp only at hlf;refine ⟨ok,?_,fun σ=>?_⟩
 ·rw [x.lev okf,hlf];have:=al.2.1;have:=ah.2.1;omega
 ·rw [den,x.n,Cu,al.2.2,ah.2.2];constructor
  ·rintro (⟨τ,h1,h2⟩ | ⟨τ,h1,h2⟩)
   ·refine ⟨Kr τ v false,fun u u0 u1 hu=>?_,?_⟩
    ·rw [OH _ _ (fun e=>by subst e;rw [hb] at hu;cases hu)];exact h1 u u0 u1 hu
    ·rw [x.den hw hw' okf,Cg hw ht,Lp,CN hw okl v0 v1 pll];exact h2
   ·refine ⟨Kr τ v true,fun u u0 u1 hu=>?_,?_⟩
    ·rw [OH _ _ (fun e=>by subst e;rw [hb] at hu;cases hu)];exact h1 u u0 u1 hu
    ·rw [x.den hw hw' okf,Cg hw ht,Lp,CN hw okh v0 v1 plh];exact h2
  ·rintro ⟨τ,h1,h2⟩;rw [x.den hw hw' okf,Cg hw ht] at h2;cases hv:τ v with
   | true=>rw [hv] at h2;exact .inr ⟨τ,h1,h2⟩
   | false=>rw [hv] at h2;exact .inl ⟨τ,h1,h2⟩
theorem Pn.keep {X:Int} {S S':ST} {f v l h rl rh r:Int} (hw:WF S) (ht:DD S.N f=some (v,l,h)) (hb:KJ X v=false) (al:Pn X S l rl) (ah:Pn X S h rh) (p:Kl S S' v rl rh r):Pn X S' f r:=by
 obtain ⟨x1,x2,v0,v1,x5,okl,okh,pll,plh⟩:=hw.node f v l h ht;have okf:S.ok f:=.inr (.inr ⟨x1,_,ht⟩);have hlf:=Cw hw ht;dsimp only at hlf;refine ⟨p.ok,?_,fun σ=>?_⟩
 ·rw [p.ext.lev okf,hlf];exact p.lev _ (Cl _) (by have:=al.2.1;omega) (by have:=ah.2.1;omega)
 ·rw [p.den,p.ext.n];constructor
  ·intro hr;cases hv:σ v with
   | true=>
    rw [hv] at hr;obtain ⟨τ,h1,h2⟩:=(ah.2.2 σ).1 hr;refine ⟨τ,h1,?_⟩;rw [p.ext.den hw p.wf okf,Cg hw ht,h1 v v0 v1 hb,hv];exact h2
   | false=>
    rw [hv] at hr;obtain ⟨τ,h1,h2⟩:=(al.2.2 σ).1 hr;refine ⟨τ,h1,?_⟩;rw [p.ext.den hw p.wf okf,Cg hw ht,h1 v v0 v1 hb,hv];exact h2
  ·rintro ⟨τ,h1,h2⟩;rw [p.ext.den hw p.wf okf,Cg hw ht,h1 v v0 v1 hb] at h2;cases hv:σ v with
   | true=>rw [hv] at h2;exact (ah.2.2 σ).2 ⟨τ,h1,h2⟩
   | false=>rw [hv] at h2;exact (al.2.2 σ).2 ⟨τ,h1,h2⟩
theorem TD (σ:Int→Bool) {u v:Int} (h:u≠v) (a b:Bool):Kr (Kr σ u a) v b=Kr (Kr σ v b) u a:=by
 funext x
 unfold Kr;by_cases e1:x=v
 ·by_cases e2:x=u
  ·exact absurd (e2.symm.trans e1) h
  ·subst e1;simp [e2]
 ·simp [e1]
def Ea (S:ST) (roots:List Int) (f:Int):Prop:=
 ∀ p:Int→Prop,(∀ r∈roots,2≤r→p r)→(∀ g v l h,p g→DD S.N g=some (v,l,h)→(2≤l→p l)∧(2≤h→p h))→p f
theorem Ea.root {S:ST} {roots:List Int} {r:Int} (h:r∈roots) (h2:2≤r):Ea S roots r:=fun _ a _=>a r h h2
theorem Ea.low {S:ST} {roots:List Int} {f v l h:Int} (hr:Ea S roots f) (ht:DD S.N f=some (v,l,h)) (h2:2≤l):Ea S roots l:=fun p a b=>(b f v l h (hr p a b) ht).1 h2
theorem Ea.high {S:ST} {roots:List Int} {f v l h:Int} (hr:Ea S roots f) (ht:DD S.N f=some (v,l,h)) (h2:2≤h):Ea S roots h:=fun p a b=>(b f v l h (hr p a b) ht).2 h2
def Fz (S:ST) (roots:List Int):Prop:=∀ r∈roots,S.ok r
theorem Ml {α:Type} [DecidableEq α]:∀ (l m:List α),l.Nodup→(∀ x∈l,x∈m)→l.length≤m.length
 | [],_,_,_=>by simp
 | a :: l,m,h,hm=>by
  simp only [DH] at h;have ha:a∈m:=hm a (by simp);have hpos:0<m.length:=Ck ha;have:=Ml l (m.erase a) h.2 (fun x hx=>(List.mem_erase_of_ne (fun (e:x=a)=>h.1 (e ▸ hx))).2 (hm x (AP _ hx)));rw [List.length_erase_of_mem ha] at this;simp only [AU];omega
def Jk (N:List (Int×GK)):Nat→Int→List Int
 | 0,_=>[]
 | k+1,f=>if f≤1 then [] else match DD N f with
  | none=>[]
  | some t=>f :: (Jk N k t.2.1++Jk N k t.2.2)
theorem Ju (N:List (Int×GK)):∀ k f,((Jk N k f).length:Int)≤Ge k
 | 0,f=>by simp [Jk,Ge]
 | k+1,f=>by
  have hc:=EX k;unfold Jk;split
  ·simp only [Ao,Ge];omega
  ·split
   ·simp only [Ao,Ge];omega
   ·rename_i t _;have:=Ju N k t.2.1;have:=Ju N k t.2.2;simp only [AU,AJ,Ge];omega
theorem Jv {S:ST} (hw:WF S):∀ (k:Nat) (f:Int),S.ok f→(S.n:Int) - S.lev f≤k→∀ g v l h,g∈Jk S.N k f→DD S.N g=some (v,l,h)→(2≤l→l∈Jk S.N k f)∧(2≤h→h∈Jk S.N k f)
 | 0,_,_,_,_,_,_,_,hg,_=>by simp [Jk] at hg
 | k+1,f,okf,hk,g,v,l,h,hg,ht=>by
  have head:∀ (k:Nat) (c:Int),S.ok c→2≤c→(S.n:Int) - S.lev c≤k→c∈Jk S.N k c:=by
   intro k c okc c2 hk;have hlt:=(DE hw okc).2 c2;cases k with
   | zero=>omega
   | succ k=>
    rcases okc with rfl | rfl | ⟨_,t,hc⟩
    ·omega
    ·omega
    ·have:¬ c≤1:=(by omega);simp [Jk,this,hc]
  unfold Jk at hg ⊢;by_cases f1:f≤1
  ·simp [f1] at hg
  ·simp only [f1,if_false] at hg ⊢;rcases okf with rfl | rfl | ⟨f2,⟨a,b,c⟩,hf⟩
   ·omega
   ·omega
   rw [hf] at hg ⊢;obtain ⟨x1,x2,x3,x4,x5,okb,okc,pb,pc⟩:=hw.node f a b c hf;rw [Cw hw hf] at hk;dsimp only at hk hg ⊢;rcases AG.1 hg with e | hg
   ·subst e;rw [hf] at ht;simp only [BD,Prod.mk.injEq] at ht;obtain ⟨rfl,rfl,rfl⟩:=ht;exact ⟨fun h2=>AP _ (AC.2 (.inl (head k _ okb h2 (by omega)))),fun h2=>AP _ (AC.2 (.inr (head k _ okc h2 (by omega))))⟩
   ·rcases AC.1 hg with hg | hg
    ·obtain ⟨i1,i2⟩:=Jv hw k b okb (by omega) g v l h hg ht;exact ⟨fun h2=>AP _ (AC.2 (.inl (i1 h2))),fun h2=>AP _ (AC.2 (.inl (i2 h2)))⟩
    ·obtain ⟨i1,i2⟩:=Jv hw k c okc (by omega) g v l h hg ht;exact ⟨fun h2=>AP _ (AC.2 (.inr (i1 h2))),fun h2=>AP _ (AC.2 (.inr (i2 h2)))⟩
theorem YN {S:ST} (hw:WF S) {f:Int} (okf:S.ok f) (f2:2≤f):f∈Jk S.N S.n f:=by
 have hlt:=(DE hw okf).2 f2;have h0:=Be hw okf;obtain ⟨k,hk⟩:∃ k,S.n=k+1:=⟨S.n - 1,by omega⟩;rw [hk];rcases okf with rfl | rfl | ⟨_,t,hc⟩
 ·omega
 ·omega
 ·have:¬ f≤1:=by omega
  simp [Jk,this,hc]
theorem V1 {S:ST} (hw:WF S) {roots:List Int} (hr:Fz S roots) {f:Int} (h:Ea S roots f):f∈roots.flatMap (Jk S.N S.n):=by
 refine h (fun f=>f∈roots.flatMap (Jk S.N S.n)) (fun r hm h2=>Ap.2 ⟨r,hm,YN hw (hr r hm) h2⟩) ?_;intro g v l h' hg ht;obtain ⟨r,hm,hg⟩:=Ap.1 hg;have h0:=Be hw (hr r hm);obtain ⟨i1,i2⟩:=Jv hw S.n r (hr r hm) (by omega) g v l h' hg ht;exact ⟨fun h2=>Ap.2 ⟨r,hm,i1 h2⟩,fun h2=>Ap.2 ⟨r,hm,i2 h2⟩⟩
theorem KH (N:List (Int×GK)) (k:Nat):∀ roots:List Int,((roots.flatMap (Jk N k)).length:Int)≤roots.length * Ge k
 | []=>by simp
 | r :: roots=>by
  have:=Ju N k r;have:=KH N k roots;simp only [A6,AJ,AU];have e:((roots.length+1:Nat):Int) * Ge k=roots.length * Ge k+Ge k:=by
   rw [Int.natCast_add,Int.add_mul];simp
  rw [e];omega
structure Q6 (S:ST) (roots:List Int) (xs:List (Int×GK)):Prop where
 nodup:(xs.map Prod.fst).Nodup
 at_:∀ x∈xs,DD S.N x.1=some x.2
 iff:∀ f,f∈xs.map Prod.fst↔Ea S roots f
structure IE (S S':ST) (roots:List Int):Prop where
 order:S'.order=S.order
 place:S'.place=S.place
 next:S'.next=S.next
 known:S'.K=[]
 node:∀ f t,DD S'.N f=some t↔DD S.N f=some t∧Ea S roots f
 number:∀ t f,DD S'.U t=some f↔DD S.U t=some f∧Ea S roots f
theorem IE.sub {S S':ST} {roots:List Int} (h:IE S S' roots):Sub S' S:=⟨h.order.symm,h.place.symm,Int.le_of_eq h.next,fun f t ht=>((h.node f t).1 ht).1⟩
theorem IE.ok_root {S S':ST} {roots:List Int} (h:IE S S' roots) (hr:Fz S roots) {r:Int} (hm:r∈roots):S'.ok r:=by
 rcases hr r hm with e | e | ⟨h2,t,ht⟩
 ·exact .inl e
 ·exact .inr (.inl e)
 ·exact .inr (.inr ⟨h2,t,(h.node r t).2 ⟨ht,Ea.root hm h2⟩⟩)
theorem IE.wf {S S':ST} {roots:List Int} (hw:WF S) (h:IE S S' roots):WF S':=by
 have hsub:=h.sub;have okc:∀ c,S.ok c→(2≤c→Ea S roots c)→S'.ok c:=by
  intro c hc hr;rcases hc with e | e | ⟨h2,t,ht⟩
  ·exact .inl e
  ·exact .inr (.inl e)
  ·exact .inr (.inr ⟨h2,t,(h.node c t).2 ⟨ht,hr h2⟩⟩)
 refine ⟨by rw [h.order,h.place];exact hw.ord,by rw [h.next];exact hw.two,?_,?_⟩
 ·intro f v l hh ht;obtain ⟨ht',hr⟩:=(h.node _ _).1 ht;obtain ⟨x1,x2,x3,x4,x5,okl,okh,pl,ph⟩:=hw.node f v l hh ht';have ol:=okc l okl (fun h2=>hr.low ht' h2);have oh:=okc hh okh (fun h2=>hr.high ht' h2);refine ⟨x1,by rw [h.next];exact x2,x3,by rw [←hsub.n];exact x4,x5,ol,oh,?_,?_⟩
  ·rw [←hsub.pl,←hsub.lev ol];exact pl
  ·rw [←hsub.pl,←hsub.lev oh];exact ph
 ·intro t f;rw [h.number,h.node,hw.inv]
theorem IE.den {S S':ST} {roots:List Int} (hw:WF S) (h:IE S S' roots) {f:Int} (hf:S'.ok f) (σ:Int→Bool):S'.den f σ=S.den f σ:=(h.sub.den (h.wf hw) hw hf σ).symm
theorem IE.kok {S S':ST} {roots:List Int} (h:IE S S' roots):Jj S':=by
 intro f g k r hg;rw [h.known] at hg;cases hg
structure JS (S:ST) (roots ws:List Int) (xs:List (Int×GK)):Prop where
 nodup:(xs.map Prod.fst).Nodup
 at_:∀ x∈xs,DD S.N x.1=some x.2
 reach:∀ x∈xs,Ea S roots x.1
 wok:∀ f∈ws,S.ok f∧(2≤f→Ea S roots f)
 roots:∀ r∈roots,2≤r→r∈xs.map Prod.fst∨r∈ws
 closed:∀ x∈xs,∀ c,c=x.2.2.1∨c=x.2.2.2→2≤c→c∈xs.map Prod.fst∨c∈ws
theorem JS.start {S:ST} {roots:List Int} (hr:Fz S roots):JS S roots roots []:=
 ⟨by simp,by simp,by simp,fun f hf=>⟨hr f hf,fun h2=>Ea.root hf h2⟩,fun r hr _=>.inr hr,by simp⟩
theorem JS.skip {S:ST} {roots ws:List Int} {f:Int} {xs:List (Int×GK)} (h:JS S roots (ws++[f]) xs) (hf:f∈xs.map Prod.fst∨f≤1):JS S roots ws xs:=by
 have key:∀ c,2≤c→(c∈xs.map Prod.fst∨c∈ws++[f])→c∈xs.map Prod.fst∨c∈ws:=by
  intro c h2 hc;rcases hc with hc | hc
  ·exact .inl hc
  ·rcases AC.1 hc with hc | hc
   ·exact .inr hc
   ·simp only [AF] at hc;subst hc;rcases hf with hf | hf
    ·exact .inl hf
    ·omega
 exact ⟨h.nodup,h.at_,h.reach,fun g hg=>h.wok g (AC.2 (.inl hg)),fun r hr h2=>key r h2 (h.roots r hr h2),fun x hx c hc h2=>key c h2 (h.closed x hx c hc h2)⟩
theorem JS.take {S:ST} (hw:WF S) {roots ws:List Int} {f:Int} {t:GK} {xs:List (Int×GK)} (h:JS S roots (ws++[f]) xs) (hf:f∉xs.map Prod.fst) (f2:2≤f) (ht:DD S.N f=some t) :
  JS S roots (ws++[t.2.2,t.2.1]) (xs++[(f,t)]):=by
 obtain ⟨v,l,r⟩:=t;have hrf:=(h.wok f (by simp)).2 f2;have hn:=hw.node f v l r ht;have key:∀ c,(c∈xs.map Prod.fst∨c∈ws++[f])→c∈(xs++[(f,(v,l,r))]).map Prod.fst∨c∈ws++[r,l]:=by
  intro c hc;rcases hc with hc | hc
  ·exact .inl (by simp only [Am,AC];exact .inl hc)
  ·rcases AC.1 hc with hc | hc
   ·exact .inr (AC.2 (.inl hc))
   ·simp only [AF] at hc;subst hc;exact .inl (by simp)
 refine ⟨?_,?_,?_,?_,fun q hq h2=>key q (h.roots q hq h2),?_⟩
 ·rw [Am,BJ];refine ⟨h.nodup,by simp,fun a ha b hb=>?_⟩;simp only [Au,Dc,AF] at hb;exact fun e=>hf (by rw [←hb,←e];exact ha)
 ·intro x hx;rcases AC.1 hx with hx | hx
  ·exact h.at_ x hx
  ·simp only [AF] at hx;subst hx;exact ht
 ·intro x hx;rcases AC.1 hx with hx | hx
  ·exact h.reach x hx
  ·simp only [AF] at hx;subst hx;exact hrf
 ·intro g hg;rcases AC.1 hg with hg | hg
  ·exact h.wok g (AC.2 (.inl hg))
  ·simp only [AG,A7,or_false] at hg;rcases hg with rfl | rfl
   ·exact ⟨hn.2.2.2.2.2.2.1,fun h2=>hrf.high ht h2⟩
   ·exact ⟨hn.2.2.2.2.2.1,fun h2=>hrf.low ht h2⟩
 ·intro x hx c hc h2;rcases AC.1 hx with hx | hx
  ·exact key c (h.closed x hx c hc h2)
  ·simp only [AF] at hx;subst hx;refine .inr (AC.2 (.inr ?_));rcases hc with rfl | rfl <;> simp
theorem JS.done {S:ST} {roots:List Int} {xs:List (Int×GK)} (h:JS S roots [] xs):Q6 S roots xs:=by
 refine ⟨h.nodup,h.at_,fun f=>⟨fun hf=>?_,fun hr=>?_⟩⟩
 ·obtain ⟨x,hx,rfl⟩:=AM.1 hf;exact h.reach x hx
 ·refine hr (fun f=>f∈xs.map Prod.fst) (fun r hm h2=>by simpa using h.roots r hm h2) ?_;intro g v l hh hg ht;obtain ⟨x,hx,rfl⟩:=AM.1 hg;have e:=h.at_ x hx;rw [ht] at e;have e:=Ar e;constructor
  ·intro h2;simpa using h.closed x hx l (.inl (by rw [←e])) h2
  ·intro h2;simpa using h.closed x hx hh (.inr (by rw [←e])) h2
theorem JS.length {S:ST} {roots ws:List Int} {xs:List (Int×GK)} (h:JS S roots ws xs):xs.length≤S.N.length:=by
 have:=Ml (xs.map Prod.fst) (S.N.map Prod.fst) h.nodup (fun f hf=>by
  obtain ⟨x,hx,rfl⟩:=AM.1 hf
  exact AM.2 ⟨_,FE (h.at_ x hx),rfl⟩)
 simpa using this
section
variable {S C:ST} {u d:Int} {m:Nat} {T:List Int} {hole:Option GK}
end
section
variable {S C:ST} {u d:Int} {m:Nat}
end
section
variable {S S':ST}
theorem hangs (hw:WF S) {f v l h:Int} (ht:DD S.N f=some (v,l,h)):¬ ∀ σ,S.den f (Kr σ v true)=S.den f (Kr σ v false):=by
 intro hc;obtain ⟨_,_,v0,v1,lh,okl,okh,pl,ph⟩:=hw.node f v l h ht;refine lh (Xx hw okl okh fun σ=>?_);have:=hc σ;rw [Cg hw ht,Cg hw ht] at this;simp only [Kr,if_true] at this;have e1:=CN hw okh v0 v1 ph σ true;have e2:=CN hw okl v0 v1 pl σ false;simp only [BQ,if_false] at this;rw [e1,e2] at this;exact this.symm
end
end
section
open Go.RowKit
section
variable {P:Program} {K:TypeId} {α β:Type} {ek:α→Value} {ev:β→Value}
def Bi (ek:α→Value) (ev:β→Value) (w:World) (r:Nat) (L:List (α×β)):Prop:=
 ∃ es clock,w.heap[r]?=some (.map es clock)∧es.toList.map (fun e=>(e.key,e.val))=L.map (fun p=>(ek p.1,ev p.2)) ∧
  (es.toList.map (·.born)).Nodup∧(∀ e∈es.toList,e.born<clock)∧(L.map Prod.fst).Nodup
theorem Bi.of_heap {w w':World} {r:Nat} {L:List (α×β)} (h:Bi ek ev w r L) (e:w'.heap[r]?=w.heap[r]?):Bi ek ev w' r L:=by
 obtain ⟨es,clock,h1,h2⟩:=h;exact ⟨es,clock,e.trans h1,h2⟩
theorem Bi.lt {w:World} {r:Nat} {L:List (α×β)} (h:Bi ek ev w r L):r<w.heap.size:=by
 obtain ⟨es,clock,h1,h2⟩:=h;exact (AO.1 h1).1
theorem Bi.new (w:World) (c:Nat):Bi ek ev (w.alloc (.map #[] c)) w.heap.size ([]:List (α×β)):=
 ⟨#[],c,(MapKept.heap_alloc w _).1,by simp,by simp,by simp,by simp⟩
def blk (w:World) (r:Nat) (o:Obj):World:={ w with heap:=w.heap.setIfInBounds r o }
theorem GS {w:World} {r:Nat} {o o':Obj} (h:w.heap[r]?=some o):(blk w r o').heap[r]?=some o':=(MapKept.heap_set h).1
theorem CQ {w:World} {r:Nat} (o':Obj) {i:Nat} (hi:i≠r):(blk w r o').heap[i]?=w.heap[i]?:=by
 simp [blk,Ne.symm hi]
theorem QV {T:TypeId} {d:TypeDesc} (ht:P.underlying T=some d) {w:World} {r:Nat} {L:List (α×β)} (h:Bi ek ev w r L) (ty:TypeId) :
  ∃ o,(Builtin.clear_ #[T] ty #[.map (some r)]).run P w=.ok (.tuple #[]) (blk w r o)∧Bi ek ev (blk w r o) r ([]:List (α×β)):=by
 obtain ⟨es,clock,h1,h2,h3,h4,h5⟩:=h;refine ⟨.map #[] clock,?_,#[],clock,GS h1,by simp,by simp,by simp,by simp⟩;have hcell:(#[Value.map (some r)])[0]?=some (.map (some r)):=rfl;have hty:(#[T])[0]?=some T:=rfl;unfold Builtin.clear_;simp only [hcell,hty,Sem.run_bind,run_underlying ht,Result.andThen_ok,MapKept.run_getObj_map h1,MapKept.run_setObj_map _ h1,Sem.run_pure];rfl
end
structure LD (P:Program) (K:TypeId) {α:Type} [DecidableEq α] (ek:α→Value):Prop where
 check:∀ (em:Bool) (a:α) (w:World),(Instr.checkKey em 10000 K (ek a)).run P w=.ok () w
 eq:∀ (a b:α) (w:World),(Op.equal K (ek a) (ek b)).run P w=.ok (decide (a=b)) w
 under:∃ d,P.underlying K=some d∧∀ a b,Instr.sameNow d (ek a) (ek b)=none∨Instr.sameNow d (ek a) (ek b)=some (decide (a=b))
 stays:∀ (a:α) (w:World),(Instr.keyThatStays (ek a) (ek a)).run P w=.ok (ek a) w
section
variable {P:Program} {K:TypeId} {α β:Type} [DecidableEq α] {ek:α→Value} {ev:β→Value}
def spot (ev:β→Value):List (α×β)→α→Nat→Option (Nat×Value)
 | [],_,_=>none
 | p :: L,a,i=>if p.1=a then some (i,ev p.2) else spot ev L a (i+1)
theorem O8 {d:TypeDesc} (hd:∀ a b,Instr.sameNow d (ek a) (ek b)=none∨Instr.sameNow d (ek a) (ek b)=some (decide (a=b))) (a:α) :
  ∀ (es:List MapEntry) (L:List (α×β)) (i:Nat),es.map (fun e=>(e.key,e.val))=L.map (fun p=>(ek p.1,ev p.2))→Instr.findNow d (ek a) es i=none∨Instr.findNow d (ek a) es i=some (spot ev L a i)
 | [],[],i,_=>.inr rfl
 | [],_ :: _,_,h=>by simp at h
 | _ :: _,[],_,h=>by simp at h
 | e :: es,p :: L,i,h=>by
  simp only [Au,CH,Prod.mk.injEq] at h;obtain ⟨⟨h1,h2⟩,h3⟩:=h;unfold Instr.findNow spot;rw [h1];rcases hd a p.1 with h0 | h0
  ·rw [h0];exact .inl rfl
  ·rw [h0];by_cases hp:p.1=a
   ·have:a=p.1:=hp.symm;simp [hp,h2]
   ·have:¬ a=p.1:=fun x=>hp x.symm;simp only [this,hp,decide_false,if_false];exact O8 hd a es L (i+1) h3
theorem Kz (hk:LD P K ek) (a:α) (w:World) :
  ∀ (es:List MapEntry) (L:List (α×β)) (i:Nat),es.map (fun e=>(e.key,e.val))=L.map (fun p=>(ek p.1,ev p.2))→(Instr.findAsking K (ek a) es i).run P w=.ok (spot ev L a i) w
 | [],[],i,_=>rfl
 | [],_ :: _,_,h=>by simp at h
 | _ :: _,[],_,h=>by simp at h
 | e :: es,p :: L,i,h=>by
  simp only [Au,CH,Prod.mk.injEq] at h;obtain ⟨⟨h1,h2⟩,h3⟩:=h;unfold Instr.findAsking spot;rw [h1];simp only [Sem.run_bind,hk.eq,Result.andThen_ok];by_cases hp:p.1=a
  ·simp [hp,h2]
  ·have:¬ a=p.1:=fun x=>hp x.symm;simp only [this,hp,decide_false,if_false,BQ];exact Kz hk a w es L (i+1) h3
theorem FZ (hk:LD P K ek) (a:α) (w:World) (es:List MapEntry) (L:List (α×β)) (h:es.map (fun e=>(e.key,e.val))=L.map (fun p=>(ek p.1,ev p.2))) :
  (Instr.findKey K (ek a) es).run P w=.ok (spot ev L a 0) w:=by
 obtain ⟨d,hd,hs⟩:=hk.under;unfold Instr.findKey;simp only [Sem.run_bind,run_underlying hd,Result.andThen_ok];rcases O8 hs a es L 0 h with h0 | h0
 ·rw [h0];exact Kz hk a w es L 0 h
 ·rw [h0];rfl
theorem Ih (a:α):∀ (L:List (α×β)) (i:Nat),(spot ev L a i=none∧DD L a=none)∨∃ j v,spot ev L a i=some (i+j,ev v)∧DD L a=some v∧L[j]?=some (a,v)
 | [],i=>.inl ⟨rfl,rfl⟩
 | p :: L,i=>by
  unfold spot;rw [ER];by_cases hp:p.1=a
  ·subst hp;exact .inr ⟨0,p.2,by simp,by simp,by simp⟩
  ·simp only [hp,if_false];rcases Ih a L (i+1) with h | ⟨j,v,h1,h2,h3⟩
   ·exact .inl h
   ·exact .inr ⟨j+1,v,by rw [h1];congr 2;omega,h2,by simpa using h3⟩
theorem EM {T E:TypeId} (ht:P.underlying T=some (.map K E)) (hk:LD P K ek) {z:Value} (hz:∀ w,(zeroValue E).run P w=.ok z w) {w:World} {r:Nat} {L:List (α×β)} (h:Bi ek ev w r L) (a:α) (c:Bool) :
  (Instr.lookup T (.map (some r)) (ek a) c).run P w=.ok (if c then .tuple #[((DD L a).map ev).getD z,.bool (DD L a).isSome] else ((DD L a).map ev).getD z) w:=by
 obtain ⟨es,clock,h1,h2,h3,h4,h5⟩:=h;unfold Instr.lookup;simp only [Sem.run_bind,run_underlying ht,Result.andThen_ok,MapKept.run_getObj_map h1,Sem.run_pure,hk.check,FZ hk a w es.toList L h2];rcases Ih (ev:=ev) a L 0 with ⟨hs,hg⟩ | ⟨j,v,hs,hg,_⟩
 ·rw [hs,hg];simp only [Sem.run_bind,hz,Result.andThen_ok,Sem.run_pure,Cb,CB,B6]
 ·rw [hs,hg];simp only [A5,BU,CG];rfl
theorem Fm {T E:TypeId} (ht:P.underlying T=some (.map K E)) (hk:LD P K ek) {w:World} {r:Nat} {L:List (α×β)} (h:Bi ek ev w r L) (a:α) (v:β) :
  ∃ o,(Instr.mapUpdate T (.map (some r)) (ek a) (ev v)).run P w=.ok () (blk w r o)∧Bi ek ev (blk w r o) r (put L a v):=by
 obtain ⟨es,clock,h1,h2,h3,h4,h5⟩:=h;unfold Instr.mapUpdate;simp only [Sem.run_bind,run_underlying ht,Result.andThen_ok,MapKept.run_getObj_map h1,hk.check,FZ hk a w es.toList L h2];rcases Ih (ev:=ev) a L 0 with ⟨hs,hg⟩ | ⟨j,v0,hs,hg,hj⟩
 ·rw [hs];refine ⟨.map (es.push { key:=ek a,val:=ev v,born:=clock }) (clock+1),MapKept.run_setObj_map _ h1,_,_,GS h1,?_,?_,?_,Qg h5 a v⟩
  ·simp [put,hg,h2]
  ·simp only [Array.toList_push,Am,Au,Dc];refine BJ.2 ⟨h3,by simp,?_⟩;intro x hx y hy;simp only [AF] at hy;subst hy;obtain ⟨e,he,rfl⟩:=AM.1 hx;exact Nat.ne_of_lt (h4 e he)
  ·intro e he;simp only [Array.toList_push,AC,AF] at he;rcases he with he | rfl
   ·exact Nat.lt_succ_of_lt (h4 e he)
   ·exact Nat.lt_succ_self _
 ·rw [hs];have hlen:es.toList.length=L.length:=by have:=congrArg List.length h2;simpa using this
  have hjl:j<L.length:=(AL.1 hj).1;have hje:j<es.size:=by rw [←Array.length_toList,hlen];exact hjl
  have hkey:es[j].key=ek a:=by
   have:=congrArg (fun l:List (Value×Value)=>l[j]?) h2;simp only [AW,hj,A5,Cy,Cv hje,BD,Prod.mk.injEq] at this;exact this.1
  have hkey':((es[0+j]?).map (·.key)).getD (ek a)=ek a:=by simp [Array.getElem?_eq_getElem hje,hkey]
  have hrun:=MapKept.run_setObj_map (P:=P) (.map (es.modify (0+j) fun e=>{ e with key:=ek a,val:=ev v }) clock) h1;refine ⟨.map (es.modify (0+j) fun e=>{ e with key:=ek a,val:=ev v }) clock,?_,_,_,GS h1,?_,?_,?_,Qg h5 a v⟩
  ·simp only [hkey',Sem.run_bind,hk.stays,Result.andThen_ok];exact hrun
  ·unfold put;simp only [hg,CG,if_true];rw [Rl h5 v hj];apply Bj;intro i;have h2i:=congrArg (fun l:List (Value×Value)=>l[i]?) h2;simp only [AW,Cy,Cz,Aw,Ag] at h2i ⊢;by_cases hij:j=i
   ·subst hij;simp [Array.getElem?_eq_getElem hje,hjl]
   ·simpa [hij] using h2i
  ·have:(es.modify (0+j) fun e=>{ e with key:=ek a,val:=ev v }).toList.map (·.born)=es.toList.map (·.born):=by
    apply Bj;intro i;simp only [AW,Cy,Cz];by_cases hij:0+j=i
    ·simp only [hij,if_true];cases es[i]? <;> simp
    ·simp only [hij,if_false]
   rw [this];exact h3
  ·intro e he;rw [Array.mem_toList_iff,Array.mem_iff_getElem?] at he;obtain ⟨i,hi⟩:=he;rw [Cz] at hi;by_cases hij:0+j=i
   ·simp only [hij,if_true,Cj] at hi;obtain ⟨e0,he0,rfl⟩:=hi;exact h4 e0 (Array.mem_toList_iff.2 (Array.mem_of_getElem? he0))
   ·simp only [hij,if_false] at hi;exact h4 e (Array.mem_toList_iff.2 (Array.mem_of_getElem? hi))
theorem gO {T E:TypeId} (ht:P.underlying T=some (.map K E)) (hk:LD P K ek) {w:World} {r:Nat} {L:List (α×β)} (h:Bi ek ev w r L) (a:α) (ty:TypeId) :
  ∃ o,(Builtin.delete_ #[T,K] ty #[.map (some r),ek a]).run P w=.ok (.tuple #[]) (blk w r o)∧Bi ek ev (blk w r o) r (del L a):=by
 obtain ⟨es,clock,h1,h2,h3,h4,h5⟩:=h;have hcell:(#[Value.map (some r),ek a])[0]?=some (.map (some r)):=rfl;have hcell1:(#[Value.map (some r),ek a])[1]?=some (ek a):=rfl;have hty:(#[T,K])[0]?=some T:=rfl;unfold Builtin.delete_;simp only [hcell,hcell1,hty,Sem.run_bind,run_underlying ht,Result.andThen_ok,MapKept.run_getObj_map h1,hk.check,FZ hk a w es.toList L h2];rcases Ih (ev:=ev) a L 0 with ⟨hs,hg⟩ | ⟨j,v0,hs,hg,hj⟩
 ·rw [hs,PH hg];refine ⟨.map es clock,?_,es,clock,GS h1,h2,h3,h4,h5⟩;rw [Sem.run_bind,MapKept.run_setObj_map _ h1];rfl
 ·rw [hs];have hlen:es.toList.length=L.length:=by have:=congrArg List.length h2;simpa using this
  have hjl:j<L.length:=(AL.1 hj).1;have hje:j<es.size:=by rw [←Array.length_toList,hlen];exact hjl
  have hE:(es.eraseIdxIfInBounds (0+j)).toList=es.toList.eraseIdx j:=by simp
  refine ⟨.map (es.eraseIdxIfInBounds (0+j)) clock,?_,_,_,GS h1,?_,?_,?_,Qh h5 a⟩
  ·rw [Sem.run_bind,MapKept.run_setObj_map _ h1];rfl
  ·rw [hE,PG h5 hj,ChangeMaps.map_eraseIdx,ChangeMaps.map_eraseIdx,h2]
  ·rw [hE,ChangeMaps.map_eraseIdx];exact h3.sublist (DX _ _)
  ·rw [hE];intro e he;exact h4 e ((DX _ _).mem he)
end
def eI (n:Int):Value:=.int .i64 n
def eT (t:GK):Value:=.agg #[.int .i64 t.1,.int .i64 t.2.1,.int .i64 t.2.2]
def eU (_:Unit):Value:=.agg #[]
theorem Kp (w:World):(zeroValue 3).run prog w=.ok (.int .i64 0) w:=by kernel_rfl
theorem XI (w:World):(zeroValue 228).run prog w=.ok (.agg #[.int .i64 0,.int .i64 0,.int .i64 0]) w:=by kernel_rfl
theorem Q9 (w:World):(zeroValue 339).run prog w=.ok (.agg #[]) w:=by kernel_rfl
theorem In:LD prog 3 eI where
 check em a w:=MapKept.run_checkKey underlying3 (by simp [MapKept.IsKey,eI]) em 9999
 eq a b w:=by
  simp only [Op.equal,Op.maxDepth,eI];rw [run_equalIn_int w 9999 3 .i64 .i64 a b underlying3];rfl
 under:=⟨_,underlying3,fun a b=>.inr (by simp only [Instr.sameNow,eI,if_true];rfl)⟩
 stays a w:=by simp [Instr.keyThatStays,eI,Instr.sameBits]
theorem aC:prog.stoodInHeld 228=false:=by kernel_rfl
theorem aB:prog.stoodInHeld 285=false:=by kernel_rfl
theorem ZT:prog.underlying 228=some (.struct (prog.fieldsOf 228)):=by kernel_rfl
theorem ZS:prog.underlying 285=some (.struct (prog.fieldsOf 285)):=by kernel_rfl
theorem bN (cs:Array Value) (off:Nat) (v:Value) (h:cs[off]?=some v) (w:World):(part 3 cs off).run prog w=.ok v w:=by
 have ha:∀ w,(isAgg 3).run prog w=.ok false w:=fun w=>by kernel_rfl
 unfold part;rw [Sem.run_bind,ha,Result.andThen_ok];simp only [BQ,if_false,h];rfl
theorem Rr (x y z:Value) (w:World):(part 3 #[x,y,z] 0).run prog w=.ok x w:=bN _ _ _ rfl w
theorem Rq (x y z:Value) (w:World):(part 3 #[x,y,z] 1).run prog w=.ok y w:=bN _ _ _ rfl w
theorem Rp (x y z:Value) (w:World):(part 3 #[x,y,z] 2).run prog w=.ok z w:=bN _ _ _ rfl w
theorem eqF (d : Nat) (f1 f2 f3 : Field) (h1 : f1.type = 3 ∧ f1.offset = 0 ∧ f1.name ≠ "_") (h2 : f2.type = 3 ∧ f2.offset = 1 ∧ f2.name ≠ "_") (h3 : f3.type = 3 ∧ f3.offset = 2 ∧ f3.name ≠ "_") (a b : GK) (w : World) :
  (Op.eqFields (d+1) #[.int .i64 a.1,.int .i64 a.2.1,.int .i64 a.2.2] #[.int .i64 b.1,.int .i64 b.2.1,.int .i64 b.2.2] [f1,f2,f3]).run prog w=.ok (decide (a=b)) w:=by
 obtain ⟨a1,a2,a3⟩:=a;obtain ⟨b1,b2,b3⟩:=b;simp only [Op.eqFields,h1,h2,h3,ne_eq,not_false_eq_true,if_true,Sem.run_bind,Rr,Rq,Rp,Result.andThen_ok,run_equalIn_int _ d 3 .i64 .i64 _ _ underlying3,Sem.run_ite,Sem.run_pure];by_cases e1:a1=b1
 ·by_cases e2:a2=b2
  ·by_cases e3:a3=b3
   ·simp [e1,e2,e3]
   ·simp [e1,e2,e3]
  ·simp [e1,e2]
 ·simp [e1]
theorem eq228 (a b:GK) (w:World):(Op.equal 228 (eT a) (eT b)).run prog w=.ok (decide (a=b)) w:=by
 simp only [Op.equal,Op.maxDepth,eT];rw [run_equalIn_struct w 9999 228 _ _ ZT aC];simp only [Program.fieldsOf,underlying228];exact eqF 9998 _ _ _ ⟨rfl,rfl,by decide⟩ ⟨rfl,rfl,by decide⟩ ⟨rfl,rfl,by decide⟩ a b w
theorem eq285 (a b:GK) (w:World):(Op.equal 285 (eT a) (eT b)).run prog w=.ok (decide (a=b)) w:=by
 simp only [Op.equal,Op.maxDepth,eT];rw [run_equalIn_struct w 9999 285 _ _ ZS aB];simp only [Program.fieldsOf,underlying285];exact eqF 9998 _ _ _ ⟨rfl,rfl,by decide⟩ ⟨rfl,rfl,by decide⟩ ⟨rfl,rfl,by decide⟩ a b w
theorem aF (t:GK) (w:World):(Instr.keyThatStays (eT t) (eT t)).run prog w=.ok (eT t) w:=by
 have:Instr.sameBits 10000 (eT t) (eT t)=true:=by simp [eT,Instr.sameBits]
 simp [Instr.keyThatStays,this]
theorem Sf (em:Bool) (d:Nat) (a:Int) (w:World):(Instr.checkKey em (d+1) 3 (.int .i64 a)).run prog w=.ok () w:=MapKept.run_checkKey underlying3 (by simp [MapKept.IsKey]) em d
theorem jP (em:Bool) (t:GK) (w:World):(Instr.checkKey em 10000 228 (eT t)).run prog w=.ok () w:=by
 rw [show (10000:Nat)=9998+1+1 from rfl,eT];unfold Instr.checkKey;simp only [Sem.run_bind,run_underlying underlying228,Result.andThen_ok];rw [←Array.forIn_toList];simp [Rr,Rq,Rp,Sf]
theorem jO (em:Bool) (t:GK) (w:World):(Instr.checkKey em 10000 285 (eT t)).run prog w=.ok () w:=by
 rw [show (10000:Nat)=9998+1+1 from rfl,eT];unfold Instr.checkKey;simp only [Sem.run_bind,run_underlying underlying285,Result.andThen_ok];rw [←Array.forIn_toList];simp [Rr,Rq,Rp,Sf]
theorem WU:LD prog 228 eT:=⟨jP,eq228,⟨_,underlying228,fun _ _=>.inl rfl⟩,aF⟩
theorem cV:LD prog 285 eT:=⟨jO,eq285,⟨_,underlying285,fun _ _=>.inl rfl⟩,aF⟩
theorem AD {p:Prop} (h:p):Hid p:=h
structure AA (T:List Nat) (w w':World):Prop where
 os:w'.os=w.os
 tape:w'.tape=w.tape
 output:w'.output=w.output
 size:w.heap.size≤w'.heap.size
 block:∀ i,i<w.heap.size→i∉T→w'.heap[i]?=w.heap[i]?
theorem AA.refl (T:List Nat) (w:World):AA T w w:=⟨rfl,rfl,rfl,AQ _,fun _ _ _=>rfl⟩
theorem AA.trans {T:List Nat} {a b c:World} (h:AA T a b) (k:AA T b c):AA T a c:=
 ⟨k.os.trans h.os,k.tape.trans h.tape,k.output.trans h.output,At h.size k.size,fun i hi hT=>(k.block i (A4 hi h.size) hT).trans (h.block i hi hT)⟩
theorem AA.mono {T T':List Nat} {w w':World} (h:AA T w w') (hT:∀ i∈T,i∈T'):AA T' w w':=
 ⟨h.os,h.tape,h.output,h.size,fun i hi hn=>h.block i hi fun x=>hn (hT i x)⟩
theorem AA.trans_new {T T':List Nat} {a b c:World} (h:AA T a b) (k:AA T' b c) (hT:∀ i∈T',i∈T∨a.heap.size≤i):AA T a c:=
 ⟨k.os.trans h.os,k.tape.trans h.tape,k.output.trans h.output,At h.size k.size,fun i hi hn=>(k.block i (A4 hi h.size) (fun x=>by
  rcases hT i x with h1 | h1
  ·exact hn h1
  ·omega)).trans (h.block i hi hn)⟩
theorem AA.drewN (T:List Nat) (w:World) (n:Nat):AA T w (w.drewN n):=⟨rfl,rfl,rfl,AQ _,fun _ _ _=>rfl⟩
theorem AA.drew (T:List Nat) (w:World):AA T w w.drew:=⟨rfl,rfl,rfl,AQ _,fun _ _ _=>rfl⟩
theorem AA.alloc (T:List Nat) (w:World) (o:Obj):AA T w (w.alloc o):=⟨rfl,rfl,rfl,by simp,fun i hi _=>Go.RowKit.Below.heap_alloc w o i hi⟩
theorem AA.setCell (w:World) (a:Addr) (v:Value):AA [a.block] w (w.setCell a v):=⟨rfl,rfl,rfl,by simp [World.setCell],fun i _ hn=>Go.RowKit.Below.heap_setCell w a v i (by simpa using hn)⟩
theorem AA.blk (w:World) (r:Nat) (o:Obj):AA [r] w (blk w r o):=⟨rfl,rfl,rfl,by simp [YtgjomknpjigkhaaGreatDoor.blk],fun i _ hn=>CQ o (by simpa using hn)⟩
def AK (w:World) (b:Nat) (cs:Array Value):Prop:=∃ t,w.heap[b]?=some (.cells cs t (0,0))
theorem AK.cell {w:World} {b:Nat} {cs:Array Value} (h:AK w b cs) (i:Nat):w.cell? ⟨b,i,none⟩=cs[i]?:=by
 obtain ⟨t,h⟩:=h;simp [World.cell?,h]
theorem AK.frozen {w:World} {b:Nat} {cs:Array Value} (h:AK w b cs) (i:Nat):w.frozen? ⟨b,i,none⟩=false:=by
 obtain ⟨t,h⟩:=h;simp [World.frozen?,h]
theorem AK.lt {w:World} {b:Nat} {cs:Array Value} (h:AK w b cs):b<w.heap.size:=by
 obtain ⟨t,h⟩:=h;exact (AO.1 h).1
theorem AK.of_heap {w w':World} {b:Nat} {cs:Array Value} (h:AK w b cs) (e:w'.heap[b]?=w.heap[b]?):AK w' b cs:=by
 obtain ⟨t,h⟩:=h;exact ⟨t,e.trans h⟩
theorem AK.setCell {w:World} {b:Nat} {cs:Array Value} (h:AK w b cs) (i:Nat) (v:Value):AK (w.setCell ⟨b,i,none⟩ v) b (cs.setIfInBounds i v):=by
 obtain ⟨t,h⟩:=h;exact ⟨t,by simp [World.setCell,Array.getElem?_modify,h]⟩
theorem AK.new (w:World) (cs:Array Value) (t:TypeId):AK (w.alloc (.cells cs t)) w.heap.size cs:=⟨t,(MapKept.heap_alloc w _).1⟩
theorem AK.keeps {w w':World} {b:Nat} {cs:Array Value} {T:List Nat} (h:AK w b cs) (k:AA T w w') (hb:b∉T:=by simp):AK w' b cs:=h.of_heap (k.block b h.lt hb)
def B8 (w:World) (b:Nat) (xs:List Int):Prop:=∃ cs,AK w b cs∧∀ (i:Nat) (x:Int),xs[i]?=some x→cs[i]?=some (.int .i64 x)
theorem B8.of_heap {w w':World} {b:Nat} {xs:List Int} (h:B8 w b xs) (e:w'.heap[b]?=w.heap[b]?):B8 w' b xs:=by
 obtain ⟨cs,h1,h2⟩:=h;exact ⟨cs,h1.of_heap e,h2⟩
theorem B8.lt {w:World} {b:Nat} {xs:List Int} (h:B8 w b xs):b<w.heap.size:=by
 obtain ⟨cs,h1,h2⟩:=h;exact h1.lt
theorem B8.cell {w:World} {b:Nat} {xs:List Int} (h:B8 w b xs) {i:Nat} {x:Int} (hx:xs[i]?=some x):w.cell? ⟨b,i,none⟩=some (.int .i64 x):=by
 obtain ⟨cs,h1,h2⟩:=h;rw [h1.cell,h2 i x hx]
structure SB where
 b:Nat
 bo:Nat
 bp:Nat
 rn:Nat
 ru:Nat
 rk:Nat
 co:Nat
 cp:Nat
def SB.own (B:SB):List Nat:=[B.b,B.bo,B.bp,B.rn,B.ru,B.rk]
structure Aj (w:World) (B:SB) (S:ST):Prop where
 head:AK w B.b #[.slice (some ⟨B.bo,0,none⟩) S.order.length B.co,.slice (some ⟨B.bp,0,none⟩) S.place.length B.cp,.map (some B.rn),.map (some B.ru),.int .i64 S.next,.map (some B.rk)]
 order:B8 w B.bo S.order
 place:B8 w B.bp S.place
 nodes:Bi eI eT w B.rn S.N
 numbers:Bi eT eI w B.ru S.U
 known:Bi eT eI w B.rk S.K
 apart:B.own.Nodup
theorem Aj.of_heap {w w':World} {B:SB} {S:ST} (h:Aj w B S) (e:∀ i∈B.own,w'.heap[i]?=w.heap[i]?):Aj w' B S:=
 ⟨h.head.of_heap (e _ (by simp [SB.own])),h.order.of_heap (e _ (by simp [SB.own])),h.place.of_heap (e _ (by simp [SB.own])),h.nodes.of_heap (e _ (by simp [SB.own])),h.numbers.of_heap (e _ (by simp [SB.own])),h.known.of_heap (e _ (by simp [SB.own])),h.apart⟩
theorem Aj.lt {w:World} {B:SB} {S:ST} (h:Aj w B S):∀ i∈B.own,i<w.heap.size:=by
 intro i hi;simp only [SB.own,AG,A7,or_false] at hi;rcases hi with rfl | rfl | rfl | rfl | rfl | rfl
 ·exact h.head.lt
 ·exact h.order.lt
 ·exact h.place.lt
 ·exact h.nodes.lt
 ·exact h.numbers.lt
 ·exact h.known.lt
theorem Aj.keeps {w w':World} {B:SB} {S:ST} {T:List Nat} (h:Aj w B S) (k:AA T w w') (hT:∀ i∈B.own,i∉T:=by simp):Aj w' B S:=
 h.of_heap fun i hi=>k.block i (h.lt i hi) (hT i hi)
theorem Aj.drewN {w:World} {B:SB} {S:ST} (h:Aj w B S) (n:Nat):Aj (w.drewN n) B S:=h.of_heap fun _ _=>rfl
theorem Aj.alloc {w:World} {B:SB} {S:ST} (h:Aj w B S) (o:Obj):Aj (w.alloc o) B S:=h.keeps (AA.alloc [] w o)
theorem Aj.drew {w:World} {B:SB} {S:ST} (h:Aj w B S):Aj w.drew B S:=h.of_heap fun _ _=>rfl
theorem SB.own_ne {B:SB} (h:B.own.Nodup):B.b≠B.bo∧B.b≠B.bp∧B.b≠B.rn∧B.b≠B.ru∧B.b≠B.rk∧B.bo≠B.bp∧B.bo≠B.rn∧B.bo≠B.ru∧B.bo≠B.rk∧B.bp≠B.rn∧B.bp≠B.ru∧B.bp≠B.rk∧B.rn≠B.ru∧B.rn≠B.rk∧B.ru≠B.rk:=by
 simp only [SB.own,DH,AG,A7,or_false,not_or] at h;obtain ⟨⟨h1,h2,h3,h4,h5⟩,⟨h6,h7,h8,h9⟩,⟨h10,h11,h12⟩,⟨h13,h14⟩,h15,_⟩:=h;exact ⟨h1,h2,h3,h4,h5,h6,h7,h8,h9,h10,h11,h12,h13,h14,h15⟩
theorem Aj.nodesBlk {w:World} {B:SB} {S:ST} (h:Aj w B S) {o:Obj} {N:List (Int×GK)} (hm:Bi eI eT (blk w B.rn o) B.rn N):Aj (blk w B.rn o) B { S with N:=N }:=by
 obtain ⟨h1,h2,h3,h4,h5,h6,h7,h8,h9,h10,h11,h12,h13,h14,h15⟩:=SB.own_ne h.apart;exact ⟨h.head.of_heap (CQ o h3),h.order.of_heap (CQ o h7),h.place.of_heap (CQ o h10),hm,h.numbers.of_heap (CQ o h13.symm),h.known.of_heap (CQ o h14.symm),h.apart⟩
theorem Aj.numbersBlk {w:World} {B:SB} {S:ST} (h:Aj w B S) {o:Obj} {U:List (GK×Int)} (hm:Bi eT eI (blk w B.ru o) B.ru U):Aj (blk w B.ru o) B { S with U:=U }:=by
 obtain ⟨h1,h2,h3,h4,h5,h6,h7,h8,h9,h10,h11,h12,h13,h14,h15⟩:=SB.own_ne h.apart;exact ⟨h.head.of_heap (CQ o h4),h.order.of_heap (CQ o h8),h.place.of_heap (CQ o h11),h.nodes.of_heap (CQ o h13),hm,h.known.of_heap (CQ o h15.symm),h.apart⟩
theorem Aj.knownBlk {w:World} {B:SB} {S:ST} (h:Aj w B S) {o:Obj} {K:List (GK×Int)} (hm:Bi eT eI (blk w B.rk o) B.rk K):Aj (blk w B.rk o) B { S with K:=K }:=by
 obtain ⟨h1,h2,h3,h4,h5,h6,h7,h8,h9,h10,h11,h12,h13,h14,h15⟩:=SB.own_ne h.apart;exact ⟨h.head.of_heap (CQ o h5),h.order.of_heap (CQ o h9),h.place.of_heap (CQ o h12),h.nodes.of_heap (CQ o h14),h.numbers.of_heap (CQ o h15),hm,h.apart⟩
theorem Aj.nextCell {w:World} {B:SB} {S:ST} (h:Aj w B S) (n:Int):Aj (w.setCell ⟨B.b,4,none⟩ (.int .i64 n)) B { S with next:=n }:=by
 obtain ⟨h1,h2,h3,h4,h5,h6,h7,h8,h9,h10,h11,h12,h13,h14,h15⟩:=SB.own_ne h.apart;have e:∀ i,i≠B.b→(w.setCell ⟨B.b,4,none⟩ (.int .i64 n)).heap[i]?=w.heap[i]?:=fun i hi=>Go.RowKit.Below.heap_setCell w _ _ i hi;have hd:=h.head.setCell 4 (.int .i64 n);exact ⟨by simpa using hd,h.order.of_heap (e _ h1.symm),h.place.of_heap (e _ h2.symm),h.nodes.of_heap (e _ h3.symm),h.numbers.of_heap (e _ h4.symm),h.known.of_heap (e _ h5.symm),h.apart⟩
theorem B8.kept {w w':World} {b:Nat} {xs:List Int} {T:List Nat} (h:B8 w b xs) (k:AA T w w') (hb:b∉T):B8 w' b xs:=h.of_heap (k.block b h.lt hb)
theorem Bi.kept {α β:Type} {ek:α→Value} {ev:β→Value} {w w':World} {r:Nat} {L:List (α×β)} {T:List Nat} (h:Bi ek ev w r L) (k:AA T w w') (hb:r∉T):Bi ek ev w' r L:=h.of_heap (k.block r h.lt hb)
theorem AH {w w':World} {base:Nat} {e:TypeId} {size n:Nat} {v:Value} {xs:List Value} {T:List Nat} (h:w.ownsRow base e size v n xs) (k:AA T w w') (hT:∀ i,v.ownBlock=some i→i∉T:=by simp):w'.ownsRow base e size v n xs:=by
 obtain ⟨h1,h2⟩:=h;refine ⟨h1,?_⟩;rcases h2 with h2 | ⟨g,cap,cur,rfl,hg,hh,r⟩
 ·exact .inl h2
 ·exact .inr ⟨g,cap,cur,rfl,hg,(k.block g (AO.1 hh).1 (hT g rfl)).trans hh,r⟩
theorem Fq {w:World} {base base':Nat} {e:TypeId} {size n:Nat} {v:Value} {xs:List Value} (h:w.ownsRow base e size v n xs) (hb:base'≤base):w.ownsRow base' e size v n xs:=by
 obtain ⟨h1,h2⟩:=h;refine ⟨h1,?_⟩;rcases h2 with h2 | ⟨g,cap,cur,rfl,hg,r⟩
 ·exact .inl h2
 ·exact .inr ⟨g,cap,cur,rfl,At hb hg,r⟩
theorem L6 {w:World} {base g n cap:Nat} {xs:List Int} (h:w.ownsRow base 3 1 (.slice (some ⟨g,0,none⟩) n cap) n (xs.map (Value.int .i64))) {i:Nat} {x:Int} (hx:xs[i]?=some x):w.cell? ⟨g,i,none⟩=some (.int .i64 x):=by
 obtain ⟨h1,h2⟩:=h;rcases h2 with ⟨h2,_⟩ | ⟨g',cap',cur,e,hg,hh,hn,hm,hs,ht⟩
 ·cases h2
 ·cases e;have hi:i<xs.length:=(AL.1 hx).1;have e1:(cur.toList.take (n * 1))[i]?=some (.int .i64 x):=by rw [ht,AW,hx];rfl
  rw [AY,Nat.mul_one] at h1;rw [List.getElem?_take_of_lt (by omega)] at e1;have:cur[i]?=some (.int .i64 x):=by rw [←Cy];exact e1
  simp [World.cell?,hh,this]
theorem Ol {w:World} {base g n cap:Nat} {xs:List Value} (h:w.ownsRow base 3 1 (.slice (some ⟨g,0,none⟩) n cap) n xs):base≤g∧g<w.heap.size∧n≤cap∧cap≤maxLen:=by
 obtain ⟨h1,h2⟩:=h;rcases h2 with ⟨h2,_⟩ | ⟨g',cap',cur,e,hg,hh,hn,hm,hs,ht⟩
 ·cases h2
 ·cases e;exact ⟨hg,(AO.1 hh).1,hn,hm⟩
theorem MD:(prog.info? 3).map (fun i=>(i.zero,i.size,i.bytes))=some (some (.int .i64 0),1,8):=by kernel_rfl
def ints (xs:List Int):List Value:=xs.map (Value.int .i64)
theorem MC (xs:List Int) (j:Nat) (u:Value) (h:(ints xs)[j]?=some u):∃ x,xs[j]?=some x∧u=.int .i64 x:=by
 unfold ints at h;rw [AW] at h;obtain ⟨x,hx,e⟩:=Cj.1 h;exact ⟨x,hx,e.symm⟩
theorem FP (xs:List Int):∀ u∈ints xs,u.oneCell' = true:=ints_oneCell .i64 xs
theorem grownBy_keeps' {w w':World} {row:Option Nat} (h:w.grownBy w' row) (T:List Nat) (hr:∀ r,row=some r→r∈T∨w.heap.size≤r):AA T w w':=
 ⟨h.os,h.tape,h.output,h.size,fun i hi hn=>h.block i hi (fun e=>by
  rcases hr i e.symm with x | x
  ·exact hn x
  ·omega)⟩
theorem Uv {w:World} {g cap:Nat} {xs:List Int} (h:B8 w g xs) (hl:xs.length≤1000000000) :
  Calls prog 220 #[.slice (some ⟨g,0,none⟩) xs.length cap] w fun e w'=>∃ v,e=.returned v∧w'.ownsRow w.heap.size 3 1 v xs.length (ints xs)∧AA [] w w'∧v≠.slice none 0 0:=by
 obtain ⟨i0,hi,hz0,hz1,hz2⟩:=info_parts MD;have heq:=fun (w:World) (n c:Nat)=>Lib.run_eql_slice_nil (P:=prog) w 40 3 (some ⟨g,0,none⟩) n c 0 0 underlying40;have hk0:=AA.alloc [] w (.cells #[] 3)
 have hown:(w.alloc (.cells #[] 3)).ownsRow w.heap.size 3 1 (.slice (some ⟨w.heap.size,0,none⟩) 0 0) 0 []:=
  ⟨rfl,.inr ⟨w.heap.size,0,#[],rfl,AQ _,(MapKept.heap_alloc w _).1,AQ _,Nat.zero_le _,rfl,rfl⟩⟩
 have hcell:∀ (j:Nat) (u:Value),(ints xs)[j]?=some u→(w.alloc (.cells #[] 3)).cell? ((⟨g,0,none⟩:Addr).add j)=some u:=by
  intro j u hu;obtain ⟨x,hx,rfl⟩:=MC xs j u hu;rw [Addr.add_lit,Ag];exact (h.of_heap (hk0.block g h.lt (by simp))).cell hx
 go_in
 go_wp2_with (at_builtin;refine wpList_append_own _ rfl _ _ 40 rfl w.heap.size 3 i0 (.int .i64 0) 1 8 underlying40 hi hz0 hz1 hz2 rfl (by decide) _ 0 [] rfl hown ⟨g,0,none⟩ xs.length cap (ints xs) rfl (by simp [ints]) hcell (FP xs) (by unfold maxLen;omega) (by omega) (by simp) ?_)
 intro v w1 h1 h2 h3;have H1:=AD h1;have H3:=AD h3;clear h1 h3;go_wp2
 go_ret
 refine ⟨v,rfl,by simpa using H1.out,hk0.trans_new (grownBy_keeps' h2 [w.heap.size] (fun r e=>?_)) (fun i hi=>?_),fun e=>?_⟩
 ·simp only [Value.ownBlock,BD] at e;exact .inl (by simp [e])
 ·simp only [AF] at hi;exact .inr (by omega)
 ·exact H3.out e
def E5 (x:Int):Bool:=decide (97≤x) && decide (x≤122)
def E6 (x:Int):Bool:=decide (65≤x) && decide (x≤90)
def CU (x:Int):Bool:=decide (48≤x) && decide (x≤57)
theorem Kx {w:World} (x:Int):Calls prog 242 #[.int .u8 x] w fun e w'=>e=.returned (.bool (E5 x))∧w' = w:=by
 by_cases h1:97≤x
 ·by_cases h2:x≤122
  ·have hs:E5 x=true:=(by simp [E5,h1,h2]);rw [hs];go_in
   go_wp2_with fail
   go_ret
   exact ⟨rfl,rfl⟩
  ·have hs:E5 x=false:=(by simp [E5,h2]);rw [hs];go_in
   go_wp2_with fail
   go_ret
   exact ⟨rfl,rfl⟩
 ·have hs:E5 x=false:=by simp [E5,h1]
  rw [hs];go_in
  go_wp2_with fail
  go_ret
  exact ⟨rfl,rfl⟩
theorem P7 {w:World} (x:Int):Calls prog 244 #[.int .u8 x] w fun e w'=>e=.returned (.bool (E6 x))∧w' = w:=by
 by_cases h1:65≤x
 ·by_cases h2:x≤90
  ·have hs:E6 x=true:=(by simp [E6,h1,h2]);rw [hs];go_in
   go_wp2_with fail
   go_ret
   exact ⟨rfl,rfl⟩
  ·have hs:E6 x=false:=(by simp [E6,h2]);rw [hs];go_in
   go_wp2_with fail
   go_ret
   exact ⟨rfl,rfl⟩
 ·have hs:E6 x=false:=by simp [E6,h1]
  rw [hs];go_in
  go_wp2_with fail
  go_ret
  exact ⟨rfl,rfl⟩
theorem IW {w:World} (x:Int):Calls prog 245 #[.int .u8 x] w fun e w'=>e=.returned (.bool (CU x))∧w' = w:=by
 by_cases h1:48≤x
 ·by_cases h2:x≤57
  ·have hs:CU x=true:=(by simp [CU,h1,h2]);rw [hs];go_in
   go_wp2_with fail
   go_ret
   exact ⟨rfl,rfl⟩
  ·have hs:CU x=false:=(by simp [CU,h2]);rw [hs];go_in
   go_wp2_with fail
   go_ret
   exact ⟨rfl,rfl⟩
 ·have hs:CU x=false:=by simp [CU,h1]
  rw [hs];go_in
  go_wp2_with fail
  go_ret
  exact ⟨rfl,rfl⟩
end
end Go.Proofs.YtgjomknpjigkhaaGreatDoor
