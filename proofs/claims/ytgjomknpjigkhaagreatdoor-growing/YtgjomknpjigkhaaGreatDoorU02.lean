import Derived.Test.YtgjomknpjigkhaaGreatDoorProg
import Derived.Maps.OwnSet
import Derived.Maps.RangeWalk
import Derived.WalkKit
import Derived.WalkLawsBesides
import Derived.BigQuiet
import Derived.Maps.AppendAt
import Derived.WalkSpells
import Derived.Shelf.Small.Strs
namespace Go.Proofs.YtgjomknpjigkhaaGreatDoor
open Go.Proofs.Tryz
set_option maxRecDepth 100000
set_option maxHeartbeats 4000000
section
section
variable {α β:Type} [DecidableEq α]
def get (L:List (α×β)) (k:α):Option β:=(L.find? (fun p=>decide (p.1=k))).map Prod.snd
def put (L:List (α×β)) (k:α) (v:β):List (α×β):=
 if (get L k).isSome then L.map (fun p=>if p.1=k then (k,v) else p) else L++[(k,v)]
def del (L:List (α×β)) (k:α):List (α×β):=L.filter (fun p=>decide (p.1≠k))
theorem uQL (k:α):get ([]:List (α×β)) k=none:=rfl
theorem bQE (p:α×β) (L:List (α×β)) (k:α):get (p :: L) k=if p.1=k then some p.2 else get L k:=by
 unfold get;by_cases h:p.1=k <;> simp [h]
theorem wQJ {L:List (α×β)} {k:α}:get L k=none↔∀ p∈L,p.1≠k:=by
 induction L with
 | nil=>simp [uQL]
 | cons p L ih=>
  rw [bQE];by_cases h:p.1=k
  ·simp [h]
  ·simp [h,ih]
theorem tQE {L:List (α×β)} {k:α} {v:β} (h:get L k=some v):(k,v)∈L:=by
 induction L with
 | nil=>simp [uQL] at h
 | cons p L ih=>
  rw [bQE] at h;by_cases hp:p.1=k
  ·simp [hp] at h;subst h;subst hp;simp
  ·simp [hp] at h;exact List.mem_cons_of_mem _ (ih h)
theorem get_of_mem {L:List (α×β)} (hn:(L.map Prod.fst).Nodup) {k:α} {v:β} (h:(k,v)∈L):get L k=some v:=by
 induction L with
 | nil=>simp at h
 | cons p L ih=>
  rw [bQE];simp only [List.map_cons,List.nodup_cons] at hn;rcases List.mem_cons.1 h with rfl | h
  ·simp
  ·have:p.1≠k:=fun e=>hn.1 (by rw [e];exact List.mem_map.2 ⟨_,h,rfl⟩);simp [this,ih hn.2 h]
theorem get_append (L M:List (α×β)) (k:α):get (L++M) k=(get L k).or (get M k):=by
 induction L with
 | nil=>simp [uQL]
 | cons p L ih=>
  rw [List.cons_append,bQE,bQE,ih];by_cases h:p.1=k <;> simp [h]
theorem uQH (L:List (α×β)) (k:α) (v:β) (k':α):get (put L k v) k' = if k' = k then some v else get L k':=by
 unfold put;cases hk:(get L k).isSome with
 | true=>
  simp only [if_true];have key:∀ M:List (α×β),get (M.map (fun p=>if p.1=k then (k,v) else p)) k' = if k' = k then (if (get M k).isSome then some v else none) else get M k':=by
   intro M;induction M with
   | nil=>simp [uQL]
   | cons p M ih=>
    rw [List.map_cons,bQE,ih,bQE,bQE];by_cases hp:p.1=k
    ·simp only [hp,if_true];by_cases hkk:k=k'
     ·subst hkk;simp
     ·have:¬ k' = k:=fun e=>hkk e.symm;simp [hkk,this]
    ·simp only [hp,if_false];by_cases hpk:p.1=k'
     ·have:¬ k' = k:=fun e=>hp (hpk.trans e);simp [hpk,this]
     ·simp [hpk]
  rw [key L];simp [hk]
 | false=>
  simp only [Bool.false_eq_true,if_false];rw [get_append,bQE,uQL];have hn:get L k=none:=by simpa using hk
  by_cases h:k' = k
  ·subst h;simp [hn]
  ·have:¬ k=k':=fun e=>h e.symm;simp [h,this]
theorem get_del (L:List (α×β)) (k k':α):get (del L k) k' = if k' = k then none else get L k':=by
 unfold del;induction L with
 | nil=>simp [uQL]
 | cons p L ih=>
  by_cases hp:p.1=k
  ·rw [List.filter_cons_of_neg (by simp [hp]),ih,bQE];by_cases h:k' = k
   ·simp [h]
   ·have:¬ p.1=k':=fun e=>h (e.symm.trans hp);simp [h,this]
  ·rw [List.filter_cons_of_pos (by simp [hp]),bQE,ih,bQE];by_cases h:p.1=k'
   ·have:¬ k' = k:=fun e=>hp (h.trans e);simp [h,this]
   ·simp [h]
theorem keys_put (L:List (α×β)) (k:α) (v:β):(put L k v).map Prod.fst=if (get L k).isSome then L.map Prod.fst else L.map Prod.fst++[k]:=by
 unfold put;cases (get L k).isSome with
 | true=>
  simp only [if_true,List.map_map];apply List.map_congr_left;intro p _;by_cases h:p.1=k <;> simp [h]
 | false=>simp
theorem nodup_put {L:List (α×β)} (hn:(L.map Prod.fst).Nodup) (k:α) (v:β):((put L k v).map Prod.fst).Nodup:=by
 rw [keys_put];cases hk:(get L k).isSome with
 | true=>simpa using hn
 | false=>
  have h0:get L k=none:=by simpa using hk
  simp only [Bool.false_eq_true,if_false];rw [List.nodup_append];refine ⟨hn,by simp,fun a ha b hb=>?_⟩;simp only [List.mem_singleton] at hb;subst hb;obtain ⟨p,hp,rfl⟩:=List.mem_map.1 ha;exact wQJ.1 h0 p hp
theorem nodup_del {L:List (α×β)} (hn:(L.map Prod.fst).Nodup) (k:α):((del L k).map Prod.fst).Nodup:=
 List.Nodup.sublist (List.Sublist.map _ List.filter_sublist) hn
theorem length_put_new {L:List (α×β)} {k:α} (v:β) (h:get L k=none):(put L k v).length=L.length+1:=by
 unfold put;simp [h]
theorem put_replaces {L:List (α×β)} (hn:(L.map Prod.fst).Nodup) {a:α} {v:β} {j:Nat} (v':β) (hj:L[j]?=some (a,v)) :
  L.map (fun p=>if p.1=a then (a,v') else p)=L.set j (a,v'):=by
 induction L generalizing j with
 | nil=>simp at hj
 | cons p L ih=>
  simp only [List.map_cons,List.nodup_cons] at hn;cases j with
  | zero=>
   simp only [List.getElem?_cons_zero,Option.some.injEq] at hj;subst hj;simp only [List.map_cons,if_true,List.set_cons_zero,List.cons.injEq,true_and];conv=>rhs;rw [←List.map_id L]
   apply List.map_congr_left;intro q hq;have:q.1≠a:=fun e=>hn.1 (by rw [←e];exact List.mem_map.2 ⟨_,hq,rfl⟩);simp [this]
  | succ j=>
   simp only [List.getElem?_cons_succ] at hj;have:p.1≠a:=fun e=>hn.1 (by rw [e];exact List.mem_map.2 ⟨_,List.mem_of_getElem? hj,rfl⟩);simp only [List.map_cons,this,if_false,List.set_cons_succ,ih hn.2 hj]
theorem del_erases {L:List (α×β)} (hn:(L.map Prod.fst).Nodup) {a:α} {v:β} {j:Nat} (hj:L[j]?=some (a,v)):del L a=L.eraseIdx j:=by
 unfold del;induction L generalizing j with
 | nil=>simp at hj
 | cons p L ih=>
  simp only [List.map_cons,List.nodup_cons] at hn;cases j with
  | zero=>
   simp only [List.getElem?_cons_zero,Option.some.injEq] at hj;subst hj;rw [List.filter_cons_of_neg (by simp),List.eraseIdx_cons_zero,List.filter_eq_self];intro q hq;have:q.1≠a:=fun e=>hn.1 (by rw [←e];exact List.mem_map.2 ⟨_,hq,rfl⟩);simpa using this
  | succ j=>
   simp only [List.getElem?_cons_succ] at hj;have:p.1≠a:=fun e=>hn.1 (by rw [e];exact List.mem_map.2 ⟨_,List.mem_of_getElem? hj,rfl⟩);rw [List.filter_cons_of_pos (by simpa using this),List.eraseIdx_cons_succ,ih hn.2 hj]
theorem del_absent {L:List (α×β)} {a:α} (h:get L a=none):del L a=L:=by
 unfold del;rw [List.filter_eq_self];intro q hq;simpa using wQJ.1 h q hq
end
end
section
abbrev Tri:=Int×Int×Int
structure ST where
 order:List Int
 place:List Int
 N:List (Int×Tri)
 U:List (Tri×Int)
 next:Int
 K:List (Tri×Int)
def ST.n (S:ST):Nat:=S.order.length
def ST.pl (S:ST) (v:Int):Int:=(S.place[v.toNat]?).getD 0
def ST.lev (S:ST) (f:Int):Int:=if f≤1 then S.n else match get S.N f with | some t=>S.pl t.1 | none=>0
def ST.ok (S:ST) (f:Int):Prop:=f=0∨f=1∨(2≤f∧∃ t,get S.N f=some t)
structure Ordered (order place:List Int):Prop where
 len:place.length=order.length
 op:∀ (i:Nat) (v:Int),order[i]?=some v→0≤v∧v<order.length∧place[v.toNat]?=some (i:Int)
 po:∀ (v:Nat) (p:Int),place[v]?=some p→0≤p∧p<order.length∧order[p.toNat]?=some (v:Int)
structure WF (S:ST):Prop where
 ord:Ordered S.order S.place
 two:2≤S.next
 node:∀ f v l h,get S.N f=some (v,l,h)→2≤f∧f<S.next∧0≤v∧v<S.n∧l≠h∧S.ok l∧S.ok h∧S.pl v<S.lev l∧S.pl v<S.lev h
 inv:∀ t f,get S.U t=some f↔get S.N f=some t
def ev (N:List (Int×Tri)):Nat→Int→(Int→Bool)→Bool
 | 0,f,_=>decide (f=1)
 | k+1,f,σ=>if f≤1 then decide (f=1) else match get N f with
  | none=>false
  | some t=>if σ t.1 then ev N k t.2.2 σ else ev N k t.2.1 σ
def ST.den (S:ST) (f:Int) (σ:Int→Bool):Bool:=ev S.N S.n f σ
section
variable {S:ST}
theorem WF.pl_range (h:WF S) {v:Int} (h0:0≤v) (h1:v<S.n):0≤S.pl v∧S.pl v<S.n∧S.order[(S.pl v).toNat]?=some v∧S.place[v.toNat]?=some (S.pl v):=by
 have hl:v.toNat<S.place.length:=by rw [h.ord.len];unfold ST.n at h1;omega
 have e:S.place[v.toNat]?=some (S.place[v.toNat]):=List.getElem?_eq_getElem hl;obtain ⟨a,b,c⟩:=h.ord.po _ _ e;have ep:S.pl v=S.place[v.toNat]:=by unfold ST.pl;rw [e];rfl
 rw [ep];refine ⟨a,b,?_,e⟩;rw [c];congr 1;omega
theorem WF.pl_inj (h:WF S) {u v:Int} (u0:0≤u) (u1:u<S.n) (v0:0≤v) (v1:v<S.n) (e:S.pl u=S.pl v):u=v:=by
 obtain ⟨_,_,a,_⟩:=h.pl_range u0 u1;obtain ⟨_,_,b,_⟩:=h.pl_range v0 v1;rw [e,b] at a;exact (Option.some.inj a).symm
theorem zQE {f:Int} (h:f≤1):S.lev f=S.n:=by simp [ST.lev,h]
theorem pQB (hw:WF S) {f:Int} {t:Tri} (h:get S.N f=some t):S.lev f=S.pl t.1:=by
 obtain ⟨v,l,r⟩:=t;have:=(hw.node f v l r h).1;have:¬ f≤1:=by omega
 simp [ST.lev,this,h]
theorem pQA (hw:WF S) {f:Int} (h:S.ok f):0≤S.lev f∧S.lev f≤S.n:=by
 rcases h with rfl | rfl | ⟨_,t,ht⟩
 ·rw [zQE (by omega)];omega
 ·rw [zQE (by omega)];omega
 ·rw [pQB hw ht];obtain ⟨v,l,r⟩:=t;obtain ⟨_,_,a,b,_⟩:=hw.node f v l r ht;have:=hw.pl_range a b;dsimp only;exact ⟨this.1,by omega⟩
theorem wQB (hw:WF S) {f:Int} (h:S.ok f):S.lev f<S.n↔2≤f:=by
 rcases h with rfl | rfl | ⟨h2,t,ht⟩
 ·rw [zQE (by omega)];omega
 ·rw [zQE (by omega)];omega
 ·rw [pQB hw ht];obtain ⟨v,l,r⟩:=t;obtain ⟨_,_,a,b,_⟩:=hw.node f v l r ht;have:=hw.pl_range a b;exact ⟨fun _=>h2,fun _=>this.2.1⟩
theorem ev_fuel (hw:WF S):∀ (k:Nat) (f:Int) (σ:Int→Bool),S.ok f→(S.n:Int) - S.lev f≤k→ev S.N (k+1) f σ=ev S.N k f σ
 | 0,f,σ,hf,hk=>by
  rcases hf with rfl | rfl | ⟨h2,t,ht⟩
  ·simp [ev]
  ·simp [ev]
  ·exfalso;have:=(wQB hw (.inr (.inr ⟨h2,t,ht⟩))).2 h2;omega
 | k+1,f,σ,hf,hk=>by
  rcases hf with rfl | rfl | ⟨h2,t,ht⟩
  ·simp [ev]
  ·simp [ev]
  ·have h1:¬ f≤1:=(by omega);obtain ⟨v,l,r⟩:=t;have hn:=hw.node f v l r ht;rw [pQB hw ht] at hk;dsimp only at hk;rw [ev,ev];simp only [h1,if_false,ht];rw [ev_fuel hw k r σ hn.2.2.2.2.2.2.1 (by omega),ev_fuel hw k l σ hn.2.2.2.2.2.1 (by omega)]
theorem ev_enough (hw:WF S) {k:Nat} {f:Int} (σ:Int→Bool) (hf:S.ok f) (hk:(S.n:Int) - S.lev f≤k):∀ (m:Nat),ev S.N (k+m) f σ=ev S.N k f σ
 | 0=>rfl
 | m+1=>by rw [←Nat.add_assoc,ev_fuel hw (k+m) f σ hf (by omega),ev_enough hw σ hf hk m]
theorem eQB (σ:Int→Bool):S.den 0 σ=false:=by unfold ST.den;cases S.n <;> simp [ev]
theorem pQC (σ:Int→Bool):S.den 1 σ=true:=by unfold ST.den;cases S.n <;> simp [ev]
theorem mQB (hw:WF S) {f v l h:Int} (ht:get S.N f=some (v,l,h)) (σ:Int→Bool):S.den f σ=if σ v then S.den h σ else S.den l σ:=by
 have hn:=hw.node f v l h ht;have hp:=hw.pl_range hn.2.2.1 hn.2.2.2.1;have h1:¬ f≤1:=by omega
 unfold ST.den;obtain ⟨m,hm⟩:∃ m,S.n=m+1:=⟨S.n - 1,by omega⟩;have el:ev S.N S.n l σ=ev S.N m l σ:=by rw [hm];exact ev_fuel hw m l σ hn.2.2.2.2.2.1 (by omega)
 have eh:ev S.N S.n h σ=ev S.N m h σ:=by rw [hm];exact ev_fuel hw m h σ hn.2.2.2.2.2.2.1 (by omega)
 rw [el,eh,hm,ev];simp only [h1,if_false,ht]
theorem node_induct (hw:WF S) {p:Int→Prop} (p0:p 0) (p1:p 1) (step:∀ f v l h,get S.N f=some (v,l,h)→S.ok l→S.ok h→p l→p h→p f):∀ f,S.ok f→p f:=by
 have key:∀ (m:Nat) (f:Int),S.ok f→(S.n:Int) - S.lev f≤m→p f:=by
  intro m;induction m with
  | zero=>
   intro f hf hm;rcases hf with rfl | rfl | ⟨h2,t,ht⟩
   ·exact p0
   ·exact p1
   ·exfalso;have:=(wQB hw (.inr (.inr ⟨h2,t,ht⟩))).2 h2;omega
  | succ m ih=>
   intro f hf hm;rcases hf with rfl | rfl | ⟨h2,t,ht⟩
   ·exact p0
   ·exact p1
   ·obtain ⟨v,l,h⟩:=t;have hn:=hw.node f v l h ht;rw [pQB hw ht] at hm;dsimp only at hm;exact step f v l h ht hn.2.2.2.2.2.1 hn.2.2.2.2.2.2.1 (ih l hn.2.2.2.2.2.1 (by omega)) (ih h hn.2.2.2.2.2.2.1 (by omega))
 intro f hf;exact key S.n f hf (by have:=(pQA hw hf).1;omega)
theorem den_congr (hw:WF S) {f:Int} (hf:S.ok f):∀ (σ τ:Int→Bool),(∀ v:Int,0≤v→v<S.n→S.lev f≤S.pl v→σ v=τ v)→S.den f σ=S.den f τ:=by
 refine node_induct hw (p:=fun f=>∀ (σ τ:Int→Bool),(∀ v:Int,0≤v→v<S.n→S.lev f≤S.pl v→σ v=τ v)→S.den f σ=S.den f τ) ?_ ?_ ?_ f hf
 ·intro σ τ _;rw [eQB,eQB]
 ·intro σ τ _;rw [pQC,pQC]
 ·intro f v l h ht hl hh il ih σ τ hst;have hn:=hw.node f v l h ht;rw [pQB hw ht] at hst;dsimp only at hst;rw [mQB hw ht,mQB hw ht,hst v hn.2.2.1 hn.2.2.2.1 (Int.le_refl _)];rw [ih σ τ (fun u u0 u1 u2=>hst u u0 u1 (by omega)),il σ τ (fun u u0 u1 u2=>hst u u0 u1 (by omega))]
def upd (σ:Int→Bool) (v:Int) (b:Bool):Int→Bool:=fun u=>if u=v then b else σ u
theorem bQB (hw:WF S) {f v:Int} (hf:S.ok f) (v0:0≤v) (v1:v<S.n) (hv:S.pl v<S.lev f) (σ:Int→Bool) (b:Bool):S.den f (upd σ v b)=S.den f σ:=
 den_congr hw hf _ _ fun u u0 u1 u2=>by
  have:u≠v:=fun e=>by subst e;omega
  simp [upd,this]
theorem canon (hw:WF S):∀ (m:Nat) (f g:Int),S.ok f→S.ok g→(S.n:Int) - S.lev f≤m∧(S.n:Int) - S.lev g≤m→(∀ σ,S.den f σ=S.den g σ)→f=g:=by
 intro m;induction m with
 | zero=>
  intro f g hf hg hm he;have a:=pQA hw hf;have b:=pQA hw hg;have f2:¬ 2≤f:=fun h=>by have:=(wQB hw hf).2 h;omega
  have g2:¬ 2≤g:=fun h=>by have:=(wQB hw hg).2 h;omega
  have:=he (fun _=>true);rcases hf with rfl | rfl | ⟨h2,_⟩
  ·rcases hg with rfl | rfl | ⟨h2,_⟩
   ·rfl
   ·rw [eQB,pQC] at this;cases this
   ·exact absurd h2 g2
  ·rcases hg with rfl | rfl | ⟨h2,_⟩
   ·rw [eQB,pQC] at this;cases this
   ·rfl
   ·exact absurd h2 g2
  ·exact absurd h2 f2
 | succ m ih=>
  intro f g hf hg hm he;have a:=pQA hw hf;have b:=pQA hw hg;have strict:∀ f g,S.ok f→S.ok g→S.lev f<S.lev g→(S.n:Int) - S.lev f≤m+1∧(S.n:Int) - S.lev g≤m+1→(∀ σ,S.den f σ=S.den g σ)→False:=by
   intro f g hf hg hlt hm he;have b:=pQA hw hg;have f2:=(wQB hw hf).1 (by omega);rcases hf with rfl | rfl | ⟨_,t,ht⟩
   ·omega
   ·omega
   ·obtain ⟨v,l,h⟩:=t;have hn:=hw.node f v l h ht;rw [pQB hw ht] at hlt hm;dsimp only at hlt hm;obtain ⟨_,_,v0,v1,lh,okl,okh,pll,plh⟩:=hn;have hll:=pQA hw okl;have hlh:=pQA hw okh;refine lh (ih l h okl okh (by omega) fun σ=>?_);have e1:=he (upd σ v false);have e2:=he (upd σ v true);rw [mQB hw ht,bQB hw hg v0 v1 hlt] at e1 e2;rw [show upd σ v false v=false by simp [upd]] at e1;rw [show upd σ v true v=true by simp [upd],if_pos rfl] at e2;have e3:=bQB hw okl v0 v1 pll σ false;have e4:=bQB hw okh v0 v1 plh σ true;simp only [Bool.false_eq_true,if_false] at e1;rw [e3] at e1;rw [e4] at e2;rw [e1,e2]
  rcases Int.lt_trichotomy (S.lev f) (S.lev g) with hlt | heq | hgt
  ·exact (strict f g hf hg hlt hm he).elim
  ·by_cases f2:2≤f
   ·have hfl:=(wQB hw hf).2 f2;have g2:=(wQB hw hg).1 (by omega);rcases hf with rfl | rfl | ⟨_,t,ht⟩
    ·omega
    ·omega
    rcases hg with rfl | rfl | ⟨_,u,hu⟩
    ·omega
    ·omega
    obtain ⟨v,l,h⟩:=t;obtain ⟨v',l',h'⟩:=u;have hn:=hw.node f v l h ht;have hn':=hw.node g v' l' h' hu;rw [pQB hw ht,pQB hw hu] at heq;rw [pQB hw ht,pQB hw hu] at hm;dsimp only at heq hm;obtain ⟨_,_,v0,v1,lh,okl,okh,pll,plh⟩:=hn;obtain ⟨_,_,v0',v1',lh',okl',okh',pll',plh'⟩:=hn';have ev:=hw.pl_inj v0 v1 v0' v1' heq;subst ev;have hll:=pQA hw okl;have hlh:=pQA hw okh;have hll':=pQA hw okl';have hlh':=pQA hw okh';have el:l=l':=ih l l' okl okl' (by omega) fun σ=>by
     have e1:=he (upd σ v false);rw [mQB hw ht,mQB hw hu] at e1;have e3:=bQB hw okl v0 v1 pll σ false;have e4:=bQB hw okl' v0 v1 pll' σ false;rw [←e3,←e4];simpa [upd] using e1
    have eh:h=h':=ih h h' okh okh' (by omega) fun σ=>by
     have e1:=he (upd σ v true);rw [mQB hw ht,mQB hw hu] at e1;have e3:=bQB hw okh v0 v1 plh σ true;have e4:=bQB hw okh' v0 v1 plh' σ true;rw [←e3,←e4];simpa [upd] using e1
    subst el;subst eh;have i1:=(hw.inv _ _).2 ht;have i2:=(hw.inv _ _).2 hu;rw [i1] at i2;exact Option.some.inj i2
   ·have g2:¬ 2≤g:=fun h=>by
     have:=(wQB hw hg).2 h;have:=(wQB hw hf).1 (by omega);omega
    have:=he (fun _=>true);rcases hf with rfl | rfl | ⟨h2,_⟩
    ·rcases hg with rfl | rfl | ⟨h2,_⟩
     ·rfl
     ·rw [eQB,pQC] at this;cases this
     ·exact absurd h2 g2
    ·rcases hg with rfl | rfl | ⟨h2,_⟩
     ·rw [eQB,pQC] at this;cases this
     ·rfl
     ·exact absurd h2 g2
    ·exact absurd h2 f2
  ·exact (strict g f hg hf hgt (by omega) fun σ=>(he σ).symm).elim
theorem den_inj (hw:WF S) {f g:Int} (hf:S.ok f) (hg:S.ok g) (he:∀ σ,S.den f σ=S.den g σ):f=g:=
 canon hw S.n f g hf hg ⟨by have:=(pQA hw hf).1;omega,by have:=(pQA hw hg).1;omega⟩ he
structure Sub (S S':ST):Prop where
 order:S'.order=S.order
 place:S'.place=S.place
 next:S.next≤S'.next
 node:∀ f t,get S.N f=some t→get S'.N f=some t
theorem Sub.refl (S:ST):Sub S S:=⟨rfl,rfl,Int.le_refl _,fun _ _ h=>h⟩
theorem Sub.trans {A B C:ST} (h:Sub A B) (k:Sub B C):Sub A C:=⟨k.order.trans h.order,k.place.trans h.place,Int.le_trans h.next k.next,fun f t ht=>k.node f t (h.node f t ht)⟩
variable {S':ST}
theorem Sub.n (h:Sub S S'):S'.n=S.n:=by unfold ST.n;rw [h.order]
theorem Sub.pl (h:Sub S S') (v:Int):S'.pl v=S.pl v:=by unfold ST.pl;rw [h.place]
theorem Sub.ok (h:Sub S S') {f:Int} (hf:S.ok f):S'.ok f:=by
 rcases hf with h0 | h0 | ⟨h2,t,ht⟩
 ·exact .inl h0
 ·exact .inr (.inl h0)
 ·exact .inr (.inr ⟨h2,t,h.node f t ht⟩)
theorem Sub.lev (h:Sub S S') {f:Int} (hf:S.ok f):S'.lev f=S.lev f:=by
 rcases hf with rfl | rfl | ⟨h2,t,ht⟩
 ·rw [zQE (by omega),zQE (by omega),h.n]
 ·rw [zQE (by omega),zQE (by omega),h.n]
 ·have:¬ f≤1:=by omega
  simp only [ST.lev,this,if_false,ht,h.node f t ht,h.pl]
theorem Sub.den (h:Sub S S') (hw:WF S) (hw':WF S') {f:Int} (hf:S.ok f) (σ:Int→Bool):S'.den f σ=S.den f σ:=by
 refine node_induct hw (p:=fun f=>S'.den f σ=S.den f σ) ?_ ?_ ?_ f hf
 ·rw [eQB,eQB]
 ·rw [pQC,pQC]
 ·intro f v l h' ht _ _ il ih;rw [mQB hw ht,mQB hw' (h.node _ _ ht),il,ih]
end
structure Ext (S S':ST):Prop extends Sub S S' where
 len:(S'.N.length:Int) - S'.next=(S.N.length:Int) - S.next
theorem Ext.refl (S:ST):Ext S S:=⟨Sub.refl S,rfl⟩
theorem Ext.trans {A B C:ST} (h:Ext A B) (k:Ext B C):Ext A C:=⟨h.toSub.trans k.toSub,k.len.trans h.len⟩
def ST.add (S:ST) (t:Tri):ST:={ S with N:=put S.N S.next t,U:=put S.U t S.next,next:=S.next+1 }
theorem add_ext {S:ST} (hw:WF S) (t:Tri):Ext S (S.add t):=by
 have hnone:get S.N S.next=none:=by
  cases hg:get S.N S.next with
  | none=>rfl
  | some u=>obtain ⟨a,b,c⟩:=u;have:=hw.node _ a b c hg;omega
 refine ⟨⟨rfl,rfl,by simp [ST.add];omega,fun f u hu=>?_⟩,?_⟩
 ·obtain ⟨v,l,h⟩:=u;have:=hw.node f v l h hu;have hne:f≠S.next:=by omega
  simp [ST.add,uQH,hne,hu]
 ·have e:=length_put_new t hnone;simp only [ST.add];rw [e];omega
theorem add_wf {S:ST} (hw:WF S) {v l h:Int} (v0:0≤v) (v1:v<S.n) (hlh:l≠h) (okl:S.ok l) (okh:S.ok h) (pl:S.pl v<S.lev l) (ph:S.pl v<S.lev h) (hnew:get S.U (v,l,h)=none) :
  WF (S.add (v,l,h))∧get (S.add (v,l,h)).N S.next=some (v,l,h):=by
 have hx:=add_ext hw (v,l,h);have hat:get (S.add (v,l,h)).N S.next=some (v,l,h):=by simp [ST.add,uQH]
 have hnone:get S.N S.next=none:=by
  cases hg:get S.N S.next with
  | none=>rfl
  | some u=>obtain ⟨a,b,c⟩:=u;have:=hw.node _ a b c hg;omega
 refine ⟨⟨hw.ord,by have:=hw.two;simp [ST.add];omega,?_,?_⟩,hat⟩
 ·intro f a b c hg;have hn:(S.add (v,l,h)).n=S.n:=rfl;have hp:∀ u,(S.add (v,l,h)).pl u=S.pl u:=fun _=>rfl;have hnx:(S.add (v,l,h)).next=S.next+1:=rfl;by_cases hf:f=S.next
  ·subst hf;rw [hat] at hg;have e:=Option.some.inj hg;simp only [Prod.mk.injEq] at e;obtain ⟨rfl,rfl,rfl⟩:=e;rw [hn,hp,hx.lev okl,hx.lev okh,hnx];exact ⟨hw.two,by omega,v0,v1,hlh,hx.ok okl,hx.ok okh,pl,ph⟩
  ·have hg':get S.N f=some (a,b,c):=(by simpa [ST.add,uQH,hf] using hg);obtain ⟨x1,x2,x3,x4,x5,x6,x7,x8,x9⟩:=hw.node f a b c hg';rw [hn,hp,hx.lev x6,hx.lev x7,hnx];exact ⟨x1,by omega,x3,x4,x5,hx.ok x6,hx.ok x7,x8,x9⟩
 ·intro t f;simp only [ST.add,uQH];by_cases ht:t=(v,l,h)
  ·subst ht;simp only [if_true,Option.some.injEq];constructor
   ·intro e;subst e;simp
   ·intro e;by_cases hf:f=S.next
    ·exact hf.symm
    ·simp only [hf,if_false] at e;rw [(hw.inv _ _).2 e] at hnew;cases hnew
  ·simp only [ht,if_false];rw [hw.inv];by_cases hf:f=S.next
   ·subst hf;rw [hnone];simp only [if_true,Option.some.injEq];exact ⟨fun e=>(nomatch e),fun e=>absurd e.symm ht⟩
   ·simp [hf]
def ST.cof (S:ST) (f u:Int):Int×Int:=match get S.N f with
 | some t=>if 1<f∧t.1=u then (t.2.1,t.2.2) else (f,f)
 | none=>(f,f)
theorem cof_low {S:ST} (hw:WF S) {f:Int} (u:Int) (hf:f≤1):S.cof f u=(f,f):=by
 unfold ST.cof;cases hg:get S.N f with
 | none=>rfl
 | some t=>obtain ⟨a,b,c⟩:=t;have:=hw.node f a b c hg;omega
theorem cof_spec {S:ST} (hw:WF S) {f u:Int} (hf:S.ok f) (u0:0≤u) (u1:u<S.n) (hu:S.pl u≤S.lev f) :
  S.ok (S.cof f u).1∧S.ok (S.cof f u).2∧S.pl u<S.lev (S.cof f u).1∧S.pl u<S.lev (S.cof f u).2∧S.lev f≤S.lev (S.cof f u).1∧S.lev f≤S.lev (S.cof f u).2 ∧
   ∀ σ,S.den f σ=if σ u then S.den (S.cof f u).2 σ else S.den (S.cof f u).1 σ:=by
 have hpu:=hw.pl_range u0 u1;by_cases hlow:f≤1
 ·rw [cof_low hw u hlow,zQE hlow];exact ⟨hf,hf,hpu.2.1,hpu.2.1,Int.le_refl _,Int.le_refl _,fun σ=>by simp⟩
 ·have hf':=hf;rcases hf' with rfl | rfl | ⟨h2,⟨v,l,h⟩,ht⟩
  ·omega
  ·omega
  obtain ⟨x1,x2,x3,x4,x5,x6,x7,x8,x9⟩:=hw.node f v l h ht;have hl:=pQB hw ht;dsimp only at hl;by_cases hv:v=u
  ·subst hv;have e:S.cof f v=(l,h):=by
    have:1<f:=(by omega);simp [ST.cof,ht,this]
   rw [e,hl];exact ⟨x6,x7,x8,x9,by dsimp only;omega,by dsimp only;omega,fun σ=>mQB hw ht σ⟩
  ·have e:S.cof f u=(f,f):=(by simp [ST.cof,ht,hv]);have hne:S.pl u≠S.lev f:=fun e2=>hv (hw.pl_inj x3 x4 u0 u1 (by rw [←hl,e2]));rw [e];exact ⟨hf,hf,by dsimp only;omega,by dsimp only;omega,Int.le_refl _,Int.le_refl _,fun σ=>by simp⟩
def KOK (S:ST):Prop:=∀ f g h r,get S.K (f,g,h)=some r→S.ok f∧S.ok g∧S.ok h∧S.ok r∧(∀ σ,S.den r σ=if S.den f σ then S.den g σ else S.den h σ) ∧
 ∀ m,m≤S.lev f→m≤S.lev g→m≤S.lev h→m≤S.lev r
theorem KOK.ext {S S':ST} (h:KOK S) (x:Ext S S') (hw:WF S) (hw':WF S') (e:S'.K=S.K):KOK S':=by
 intro f g k r hg;rw [e] at hg;obtain ⟨a,b,c,d,den,lv⟩:=h f g k r hg;refine ⟨x.ok a,x.ok b,x.ok c,x.ok d,fun σ=>?_,fun m=>?_⟩
 ·rw [x.den hw hw' d,x.den hw hw' a,x.den hw hw' b,x.den hw hw' c];exact den σ
 ·rw [x.lev a,x.lev b,x.lev c,x.lev d];exact lv m
def cst:Nat→Int
 | 0=>0
 | k+1=>2 * cst k+1
theorem tQD:∀ k,0≤cst k
 | 0=>by simp [cst]
 | k+1=>by have:=tQD k;simp only [cst];omega
theorem cst_mono {j k:Nat} (h:j≤k):cst j≤cst k:=by
 induction h with
 | refl=>exact Int.le_refl _
 | step h ih=>rename_i m;have:=tQD m;simp only [cst];omega
structure NumPost (S S':ST) (v l h r:Int):Prop where
 ext:Ext S S'
 wf:WF S'
 known:S'.K=S.K
 ok:S'.ok r
 den:∀ σ,S'.den r σ=if σ v then S.den h σ else S.den l σ
 next:S'.next≤S.next+1
 lev:∀ m,m≤S.pl v→m≤S.lev l→m≤S.lev h→m≤S'.lev r
theorem numPost_same {S:ST} (hw:WF S) (v l:Int) (okl:S.ok l):NumPost S S v l l l:=
 ⟨Ext.refl S,hw,rfl,okl,fun σ=>by simp,by omega,fun m _ h _=>h⟩
theorem numPost_found {S:ST} (hw:WF S) {v l h f:Int} (hg:get S.U (v,l,h)=some f):NumPost S S v l h f:=by
 have ht:=(hw.inv _ _).1 hg;have hn:=hw.node f v l h ht;exact ⟨Ext.refl S,hw,rfl,.inr (.inr ⟨hn.1,_,ht⟩),fun σ=>mQB hw ht σ,by omega,fun m h1 _ _=>by rw [pQB hw ht];exact h1⟩
theorem numPost_new {S:ST} (hw:WF S) {v l h:Int} (v0:0≤v) (v1:v<S.n) (hlh:l≠h) (okl:S.ok l) (okh:S.ok h) (pl:S.pl v<S.lev l) (ph:S.pl v<S.lev h) (hnew:get S.U (v,l,h)=none) :
  NumPost S (S.add (v,l,h)) v l h S.next:=by
 obtain ⟨hw',hat⟩:=add_wf hw v0 v1 hlh okl okh pl ph hnew;have hx:=add_ext hw (v,l,h);refine ⟨hx,hw',rfl,.inr (.inr ⟨hw.two,_,hat⟩),fun σ=>?_,Int.le_refl _,fun m h1 _ _=>?_⟩
 ·rw [mQB hw' hat,hx.den hw hw' okl,hx.den hw hw' okh]
 ·rw [pQB hw' hat,hx.pl];exact h1
structure yQL (S S':ST) (f g h r:Int) (k:Nat):Prop where
 ext:Ext S S'
 wf:WF S'
 known:KOK S'
 ok:S'.ok r
 den:∀ σ,S'.den r σ=if S.den f σ then S.den g σ else S.den h σ
 next:S'.next≤S.next+cst k
 lev:∀ m,m≤S.lev f→m≤S.lev g→m≤S.lev h→m≤S'.lev r
theorem itePost_stays {S:ST} (hw:WF S) (hk:KOK S) {f g h r:Int} (k:Nat) (okr:S.ok r) (den:∀ σ,S.den r σ=if S.den f σ then S.den g σ else S.den h σ)
  (lev:∀ m,m≤S.lev f→m≤S.lev g→m≤S.lev h→m≤S.lev r):yQL S S f g h r k:=
 ⟨Ext.refl S,hw,hk,okr,den,by have:=tQD k;omega,lev⟩
end
section
def ST.withK (S:ST) (K:List (Tri×Int)):ST:={ S with K:=K }
theorem withK_wf {S:ST} (h:WF S) (K:List (Tri×Int)):WF (S.withK K):=⟨h.ord,h.two,h.node,h.inv⟩
theorem withK_ext {S S':ST} (h:Ext S S') (K:List (Tri×Int)):Ext S (S'.withK K):=⟨⟨h.order,h.place,h.next,h.node⟩,h.len⟩
structure Cof (S:ST) (f top f0 f1:Int):Prop where
 ok0:S.ok f0
 ok1:S.ok f1
 lt0:S.pl top<S.lev f0
 lt1:S.pl top<S.lev f1
 le0:S.lev f≤S.lev f0
 le1:S.lev f≤S.lev f1
 den:∀ σ,S.den f σ=if σ top then S.den f1 σ else S.den f0 σ
theorem itePost_step {S S1 S2 S3:ST} (hw:WF S) {f g h top f0 f1 g0 g1 h0 h1 r0 r1 x:Int} {k:Nat} (okf:S.ok f) (okg:S.ok g) (okh:S.ok h)
  (hm:min (min (S.lev f) (S.lev g)) (S.lev h)≤S.pl top) (cf:Cof S f top f0 f1) (cg:Cof S g top g0 g1) (ch:Cof S h top h0 h1)
  (p0:yQL S S1 f0 g0 h0 r0 k) (p1:yQL S1 S2 f1 g1 h1 r1 k) (p2:NumPost S2 S3 top r0 r1 x):yQL S (S3.withK (put S3.K (f,g,h) x)) f g h x (k+1):=by
 have x1:=p0.ext;have x2:=x1.trans p1.ext;have x3:=x2.trans p2.ext;have den:∀ σ,S3.den x σ=if S.den f σ then S.den g σ else S.den h σ:=by
  intro σ;rw [p2.den,p1.den,p1.ext.den p0.wf p1.wf p0.ok,p0.den,x1.den hw p0.wf cf.ok1,x1.den hw p0.wf cg.ok1,x1.den hw p0.wf ch.ok1,cf.den,cg.den,ch.den];cases σ top <;> simp
 have lev:∀ m,m≤S.lev f→m≤S.lev g→m≤S.lev h→m≤S3.lev x:=by
  intro m hf hg hh;have a0:=p0.lev m (Int.le_trans hf cf.le0) (Int.le_trans hg cg.le0) (Int.le_trans hh ch.le0);have a1:=p1.lev m (by rw [x1.lev cf.ok1];exact Int.le_trans hf cf.le1) (by rw [x1.lev cg.ok1];exact Int.le_trans hg cg.le1) (by rw [x1.lev ch.ok1];exact Int.le_trans hh ch.le1);refine p2.lev m ?_ (by rw [p1.ext.lev p0.ok];exact a0) a1;rw [x2.pl];omega
 refine ⟨withK_ext x3 _,withK_wf p2.wf _,?_,p2.ok,den,?_,lev⟩
 ·have hk3:KOK S3:=p1.known.ext p2.ext p1.wf p2.wf p2.known;intro a b c r hg;show S3.ok a∧S3.ok b∧S3.ok c∧S3.ok r∧(∀ σ,S3.den r σ=if S3.den a σ then S3.den b σ else S3.den c σ)∧∀ m,m≤S3.lev a→m≤S3.lev b→m≤S3.lev c→m≤S3.lev r;have hg':(if (a,b,c)=(f,g,h) then some x else get S3.K (a,b,c))=some r:=by rw [←uQH];exact hg
  by_cases e:(a,b,c)=(f,g,h)
  ·rw [if_pos e] at hg';simp only [Prod.mk.injEq] at e;obtain ⟨rfl,rfl,rfl⟩:=e;have e2:=Option.some.inj hg';subst e2;refine ⟨x3.ok okf,x3.ok okg,x3.ok okh,p2.ok,fun σ=>?_,fun m=>?_⟩
   ·rw [den,x3.den hw p2.wf okf,x3.den hw p2.wf okg,x3.den hw p2.wf okh]
   ·rw [x3.lev okf,x3.lev okg,x3.lev okh];exact lev m
  ·rw [if_neg e] at hg';exact hk3 a b c r hg'
 ·show S3.next≤S.next+cst (k+1);have a:=p0.next;have b:=p1.next;have c:=p2.next;simp only [cst];omega
end
section
def bitB (a v:Int):Bool:=decide (a / 2 ^ v.toNat % 2=1)
def ExR (X:Int) (S:ST) (f r:Int):Prop:=S.ok r∧S.lev f≤S.lev r ∧
 ∀ σ,S.den r σ=true↔∃ τ:Int→Bool,(∀ v:Int,0≤v→v<S.n→bitB X v=false→τ v=σ v)∧S.den f τ=true
theorem ExR.mono {X:Int} (S S':ST) (f r:Int) (okf:S.ok f) (x:Ext S S') (hw:WF S) (hw':WF S') (h:ExR X S f r):ExR X S' f r:=by
 obtain ⟨a,b,c⟩:=h;refine ⟨x.ok a,by rw [x.lev okf,x.lev a];exact b,fun σ=>?_⟩;rw [x.den hw hw' a,c,x.n];constructor
 ·rintro ⟨τ,h1,h2⟩;exact ⟨τ,h1,by rw [x.den hw hw' okf];exact h2⟩
 ·rintro ⟨τ,h1,h2⟩;exact ⟨τ,h1,by rw [x.den hw hw' okf] at h2;exact h2⟩
theorem ExR.const (X:Int) (S:ST) {f:Int} (h:f=0∨f=1):ExR X S f f:=by
 refine ⟨by rcases h with rfl | rfl <;> simp [ST.ok],Int.le_refl _,fun σ=>?_⟩;rcases h with rfl | rfl
 ·simp [eQB]
 ·simp only [pQC,true_iff];exact ⟨σ,fun _ _ _ _=>rfl,trivial⟩
theorem upd_same (σ:Int→Bool) (v:Int) (b:Bool):upd σ v b v=b:=by simp [upd]
theorem upd_ne (σ:Int→Bool) {v u:Int} (b:Bool) (h:u≠v):upd σ v b u=σ u:=by simp [upd,h]
theorem ExR.bit {X:Int} {S S':ST} {f v l h rl rh r:Int} (hw:WF S) (hw':WF S') (x:Ext S S') (ht:get S.N f=some (v,l,h)) (hb:bitB X v=true) (al:ExR X S l rl) (ah:ExR X S h rh)
  (ok:S'.ok r) (den:∀ σ,S'.den r σ=(S.den rl σ || S.den rh σ)) (lev:min (S.lev rl) (S.lev rh)≤S'.lev r):ExR X S' f r:=by
 obtain ⟨x1,x2,v0,v1,x5,okl,okh,pll,plh⟩:=hw.node f v l h ht;have okf:S.ok f:=.inr (.inr ⟨x1,_,ht⟩);have hlf:=pQB hw ht;dsimp only at hlf;refine ⟨ok,?_,fun σ=>?_⟩
 ·rw [x.lev okf,hlf];have:=al.2.1;have:=ah.2.1;omega
 ·rw [den,x.n,Bool.or_eq_true,al.2.2,ah.2.2];constructor
  ·rintro (⟨τ,h1,h2⟩ | ⟨τ,h1,h2⟩)
   ·refine ⟨upd τ v false,fun u u0 u1 hu=>?_,?_⟩
    ·rw [upd_ne _ _ (fun e=>by subst e;rw [hb] at hu;cases hu)];exact h1 u u0 u1 hu
    ·rw [x.den hw hw' okf,mQB hw ht,upd_same,bQB hw okl v0 v1 pll];exact h2
   ·refine ⟨upd τ v true,fun u u0 u1 hu=>?_,?_⟩
    ·rw [upd_ne _ _ (fun e=>by subst e;rw [hb] at hu;cases hu)];exact h1 u u0 u1 hu
    ·rw [x.den hw hw' okf,mQB hw ht,upd_same,bQB hw okh v0 v1 plh];exact h2
  ·rintro ⟨τ,h1,h2⟩;rw [x.den hw hw' okf,mQB hw ht] at h2;cases hv:τ v with
   | true=>rw [hv] at h2;exact .inr ⟨τ,h1,h2⟩
   | false=>rw [hv] at h2;exact .inl ⟨τ,h1,h2⟩
theorem ExR.keep {X:Int} {S S':ST} {f v l h rl rh r:Int} (hw:WF S) (ht:get S.N f=some (v,l,h)) (hb:bitB X v=false) (al:ExR X S l rl) (ah:ExR X S h rh) (p:NumPost S S' v rl rh r):ExR X S' f r:=by
 obtain ⟨x1,x2,v0,v1,x5,okl,okh,pll,plh⟩:=hw.node f v l h ht;have okf:S.ok f:=.inr (.inr ⟨x1,_,ht⟩);have hlf:=pQB hw ht;dsimp only at hlf;refine ⟨p.ok,?_,fun σ=>?_⟩
 ·rw [p.ext.lev okf,hlf];exact p.lev _ (Int.le_refl _) (by have:=al.2.1;omega) (by have:=ah.2.1;omega)
 ·rw [p.den,p.ext.n];constructor
  ·intro hr;cases hv:σ v with
   | true=>
    rw [hv] at hr;obtain ⟨τ,h1,h2⟩:=(ah.2.2 σ).1 hr;refine ⟨τ,h1,?_⟩;rw [p.ext.den hw p.wf okf,mQB hw ht,h1 v v0 v1 hb,hv];exact h2
   | false=>
    rw [hv] at hr;obtain ⟨τ,h1,h2⟩:=(al.2.2 σ).1 hr;refine ⟨τ,h1,?_⟩;rw [p.ext.den hw p.wf okf,mQB hw ht,h1 v v0 v1 hb,hv];exact h2
  ·rintro ⟨τ,h1,h2⟩;rw [p.ext.den hw p.wf okf,mQB hw ht,h1 v v0 v1 hb] at h2;cases hv:σ v with
   | true=>rw [hv] at h2;exact (ah.2.2 σ).2 ⟨τ,h1,h2⟩
   | false=>rw [hv] at h2;exact (al.2.2 σ).2 ⟨τ,h1,h2⟩
theorem upd_comm (σ:Int→Bool) {u v:Int} (h:u≠v) (a b:Bool):upd (upd σ u a) v b=upd (upd σ v b) u a:=by
 funext x
 unfold upd;by_cases e1:x=v
 ·by_cases e2:x=u
  ·exact absurd (e2.symm.trans e1) h
  ·subst e1;simp [e2]
 ·simp [e1]
end
section
def hQF (S:ST) (roots:List Int) (f:Int):Prop:=
 ∀ p:Int→Prop,(∀ r∈roots,2≤r→p r)→(∀ g v l h,p g→get S.N g=some (v,l,h)→(2≤l→p l)∧(2≤h→p h))→p f
theorem hQF.root {S:ST} {roots:List Int} {r:Int} (h:r∈roots) (h2:2≤r):hQF S roots r:=fun _ a _=>a r h h2
theorem hQF.low {S:ST} {roots:List Int} {f v l h:Int} (hr:hQF S roots f) (ht:get S.N f=some (v,l,h)) (h2:2≤l):hQF S roots l:=fun p a b=>(b f v l h (hr p a b) ht).1 h2
theorem hQF.high {S:ST} {roots:List Int} {f v l h:Int} (hr:hQF S roots f) (ht:get S.N f=some (v,l,h)) (h2:2≤h):hQF S roots h:=fun p a b=>(b f v l h (hr p a b) ht).2 h2
def gQH (S:ST) (roots:List Int):Prop:=∀ r∈roots,S.ok r
theorem nodup_len {α:Type} [DecidableEq α]:∀ (l m:List α),l.Nodup→(∀ x∈l,x∈m)→l.length≤m.length
 | [],_,_,_=>by simp
 | a :: l,m,h,hm=>by
  simp only [List.nodup_cons] at h;have ha:a∈m:=hm a (by simp);have hpos:0<m.length:=List.length_pos_of_mem ha;have:=nodup_len l (m.erase a) h.2 (fun x hx=>(List.mem_erase_of_ne (fun (e:x=a)=>h.1 (e ▸ hx))).2 (hm x (List.mem_cons_of_mem _ hx)));rw [List.length_erase_of_mem ha] at this;simp only [List.length_cons];omega
def tree (N:List (Int×Tri)):Nat→Int→List Int
 | 0,_=>[]
 | k+1,f=>if f≤1 then [] else match get N f with
  | none=>[]
  | some t=>f :: (tree N k t.2.1++tree N k t.2.2)
theorem hQL (N:List (Int×Tri)):∀ k f,((tree N k f).length:Int)≤cst k
 | 0,f=>by simp [tree,cst]
 | k+1,f=>by
  have hc:=tQD k;unfold tree;split
  ·simp only [List.length_nil,cst];omega
  ·split
   ·simp only [List.length_nil,cst];omega
   ·rename_i t _;have:=hQL N k t.2.1;have:=hQL N k t.2.2;simp only [List.length_cons,List.length_append,cst];omega
theorem iQL {S:ST} (hw:WF S):∀ (k:Nat) (f:Int),S.ok f→(S.n:Int) - S.lev f≤k→∀ g v l h,g∈tree S.N k f→get S.N g=some (v,l,h)→(2≤l→l∈tree S.N k f)∧(2≤h→h∈tree S.N k f)
 | 0,_,_,_,_,_,_,_,hg,_=>by simp [tree] at hg
 | k+1,f,okf,hk,g,v,l,h,hg,ht=>by
  have head:∀ (k:Nat) (c:Int),S.ok c→2≤c→(S.n:Int) - S.lev c≤k→c∈tree S.N k c:=by
   intro k c okc c2 hk;have hlt:=(wQB hw okc).2 c2;cases k with
   | zero=>omega
   | succ k=>
    rcases okc with rfl | rfl | ⟨_,t,hc⟩
    ·omega
    ·omega
    ·have:¬ c≤1:=(by omega);simp [tree,this,hc]
  unfold tree at hg ⊢;by_cases f1:f≤1
  ·simp [f1] at hg
  ·simp only [f1,if_false] at hg ⊢;rcases okf with rfl | rfl | ⟨f2,⟨a,b,c⟩,hf⟩
   ·omega
   ·omega
   rw [hf] at hg ⊢;obtain ⟨x1,x2,x3,x4,x5,okb,okc,pb,pc⟩:=hw.node f a b c hf;rw [pQB hw hf] at hk;dsimp only at hk hg ⊢;rcases List.mem_cons.1 hg with e | hg
   ·subst e;rw [hf] at ht;simp only [Option.some.injEq,Prod.mk.injEq] at ht;obtain ⟨rfl,rfl,rfl⟩:=ht;exact ⟨fun h2=>List.mem_cons_of_mem _ (List.mem_append.2 (.inl (head k _ okb h2 (by omega)))),fun h2=>List.mem_cons_of_mem _ (List.mem_append.2 (.inr (head k _ okc h2 (by omega))))⟩
   ·rcases List.mem_append.1 hg with hg | hg
    ·obtain ⟨i1,i2⟩:=iQL hw k b okb (by omega) g v l h hg ht;exact ⟨fun h2=>List.mem_cons_of_mem _ (List.mem_append.2 (.inl (i1 h2))),fun h2=>List.mem_cons_of_mem _ (List.mem_append.2 (.inl (i2 h2)))⟩
    ·obtain ⟨i1,i2⟩:=iQL hw k c okc (by omega) g v l h hg ht;exact ⟨fun h2=>List.mem_cons_of_mem _ (List.mem_append.2 (.inr (i1 h2))),fun h2=>List.mem_cons_of_mem _ (List.mem_append.2 (.inr (i2 h2)))⟩
theorem tree_root {S:ST} (hw:WF S) {f:Int} (okf:S.ok f) (f2:2≤f):f∈tree S.N S.n f:=by
 have hlt:=(wQB hw okf).2 f2;have h0:=pQA hw okf;obtain ⟨k,hk⟩:∃ k,S.n=k+1:=⟨S.n - 1,by omega⟩;rw [hk];rcases okf with rfl | rfl | ⟨_,t,hc⟩
 ·omega
 ·omega
 ·have:¬ f≤1:=by omega
  simp [tree,this,hc]
theorem reach_tree {S:ST} (hw:WF S) {roots:List Int} (hr:gQH S roots) {f:Int} (h:hQF S roots f):f∈roots.flatMap (tree S.N S.n):=by
 refine h (fun f=>f∈roots.flatMap (tree S.N S.n)) (fun r hm h2=>List.mem_flatMap.2 ⟨r,hm,tree_root hw (hr r hm) h2⟩) ?_;intro g v l h' hg ht;obtain ⟨r,hm,hg⟩:=List.mem_flatMap.1 hg;have h0:=pQA hw (hr r hm);obtain ⟨i1,i2⟩:=iQL hw S.n r (hr r hm) (by omega) g v l h' hg ht;exact ⟨fun h2=>List.mem_flatMap.2 ⟨r,hm,i1 h2⟩,fun h2=>List.mem_flatMap.2 ⟨r,hm,i2 h2⟩⟩
theorem aQL (N:List (Int×Tri)) (k:Nat):∀ roots:List Int,((roots.flatMap (tree N k)).length:Int)≤roots.length * cst k
 | []=>by simp
 | r :: roots=>by
  have:=hQL N k r;have:=aQL N k roots;simp only [List.flatMap_cons,List.length_append,List.length_cons];have e:((roots.length+1:Nat):Int) * cst k=roots.length * cst k+cst k:=by
   rw [Int.natCast_add,Int.add_mul];simp
  rw [e];omega
structure GoodNodes (S:ST) (roots:List Int) (xs:List (Int×Tri)):Prop where
 nodup:(xs.map Prod.fst).Nodup
 at_:∀ x∈xs,get S.N x.1=some x.2
 iff:∀ f,f∈xs.map Prod.fst↔hQF S roots f
structure Swept (S S':ST) (roots:List Int):Prop where
 order:S'.order=S.order
 place:S'.place=S.place
 next:S'.next=S.next
 known:S'.K=[]
 node:∀ f t,get S'.N f=some t↔get S.N f=some t∧hQF S roots f
 number:∀ t f,get S'.U t=some f↔get S.U t=some f∧hQF S roots f
theorem Swept.sub {S S':ST} {roots:List Int} (h:Swept S S' roots):Sub S' S:=⟨h.order.symm,h.place.symm,Int.le_of_eq h.next,fun f t ht=>((h.node f t).1 ht).1⟩
theorem Swept.ok_root {S S':ST} {roots:List Int} (h:Swept S S' roots) (hr:gQH S roots) {r:Int} (hm:r∈roots):S'.ok r:=by
 rcases hr r hm with e | e | ⟨h2,t,ht⟩
 ·exact .inl e
 ·exact .inr (.inl e)
 ·exact .inr (.inr ⟨h2,t,(h.node r t).2 ⟨ht,hQF.root hm h2⟩⟩)
theorem Swept.wf {S S':ST} {roots:List Int} (hw:WF S) (h:Swept S S' roots):WF S':=by
 have hsub:=h.sub;have okc:∀ c,S.ok c→(2≤c→hQF S roots c)→S'.ok c:=by
  intro c hc hr;rcases hc with e | e | ⟨h2,t,ht⟩
  ·exact .inl e
  ·exact .inr (.inl e)
  ·exact .inr (.inr ⟨h2,t,(h.node c t).2 ⟨ht,hr h2⟩⟩)
 refine ⟨by rw [h.order,h.place];exact hw.ord,by rw [h.next];exact hw.two,?_,?_⟩
 ·intro f v l hh ht;obtain ⟨ht',hr⟩:=(h.node _ _).1 ht;obtain ⟨x1,x2,x3,x4,x5,okl,okh,pl,ph⟩:=hw.node f v l hh ht';have ol:=okc l okl (fun h2=>hr.low ht' h2);have oh:=okc hh okh (fun h2=>hr.high ht' h2);refine ⟨x1,by rw [h.next];exact x2,x3,by rw [←hsub.n];exact x4,x5,ol,oh,?_,?_⟩
  ·rw [←hsub.pl,←hsub.lev ol];exact pl
  ·rw [←hsub.pl,←hsub.lev oh];exact ph
 ·intro t f;rw [h.number,h.node,hw.inv]
theorem Swept.den {S S':ST} {roots:List Int} (hw:WF S) (h:Swept S S' roots) {f:Int} (hf:S'.ok f) (σ:Int→Bool):S'.den f σ=S.den f σ:=(h.sub.den (h.wf hw) hw hf σ).symm
theorem Swept.kok {S S':ST} {roots:List Int} (h:Swept S S' roots):KOK S':=by
 intro f g k r hg;rw [h.known] at hg;cases hg
end
section
structure NInv (S:ST) (roots ws:List Int) (xs:List (Int×Tri)):Prop where
 nodup:(xs.map Prod.fst).Nodup
 at_:∀ x∈xs,get S.N x.1=some x.2
 reach:∀ x∈xs,hQF S roots x.1
 wok:∀ f∈ws,S.ok f∧(2≤f→hQF S roots f)
 roots:∀ r∈roots,2≤r→r∈xs.map Prod.fst∨r∈ws
 closed:∀ x∈xs,∀ c,c=x.2.2.1∨c=x.2.2.2→2≤c→c∈xs.map Prod.fst∨c∈ws
theorem NInv.start {S:ST} {roots:List Int} (hr:gQH S roots):NInv S roots roots []:=
 ⟨by simp,by simp,by simp,fun f hf=>⟨hr f hf,fun h2=>hQF.root hf h2⟩,fun r hr _=>.inr hr,by simp⟩
theorem NInv.skip {S:ST} {roots ws:List Int} {f:Int} {xs:List (Int×Tri)} (h:NInv S roots (ws++[f]) xs) (hf:f∈xs.map Prod.fst∨f≤1):NInv S roots ws xs:=by
 have key:∀ c,2≤c→(c∈xs.map Prod.fst∨c∈ws++[f])→c∈xs.map Prod.fst∨c∈ws:=by
  intro c h2 hc;rcases hc with hc | hc
  ·exact .inl hc
  ·rcases List.mem_append.1 hc with hc | hc
   ·exact .inr hc
   ·simp only [List.mem_singleton] at hc;subst hc;rcases hf with hf | hf
    ·exact .inl hf
    ·omega
 exact ⟨h.nodup,h.at_,h.reach,fun g hg=>h.wok g (List.mem_append.2 (.inl hg)),fun r hr h2=>key r h2 (h.roots r hr h2),fun x hx c hc h2=>key c h2 (h.closed x hx c hc h2)⟩
theorem NInv.take {S:ST} (hw:WF S) {roots ws:List Int} {f:Int} {t:Tri} {xs:List (Int×Tri)} (h:NInv S roots (ws++[f]) xs) (hf:f∉xs.map Prod.fst) (f2:2≤f) (ht:get S.N f=some t) :
  NInv S roots (ws++[t.2.2,t.2.1]) (xs++[(f,t)]):=by
 obtain ⟨v,l,r⟩:=t;have hrf:=(h.wok f (by simp)).2 f2;have hn:=hw.node f v l r ht;have key:∀ c,(c∈xs.map Prod.fst∨c∈ws++[f])→c∈(xs++[(f,(v,l,r))]).map Prod.fst∨c∈ws++[r,l]:=by
  intro c hc;rcases hc with hc | hc
  ·exact .inl (by simp only [List.map_append,List.mem_append];exact .inl hc)
  ·rcases List.mem_append.1 hc with hc | hc
   ·exact .inr (List.mem_append.2 (.inl hc))
   ·simp only [List.mem_singleton] at hc;subst hc;exact .inl (by simp)
 refine ⟨?_,?_,?_,?_,fun q hq h2=>key q (h.roots q hq h2),?_⟩
 ·rw [List.map_append,List.nodup_append];refine ⟨h.nodup,by simp,fun a ha b hb=>?_⟩;simp only [List.map_cons,List.map_nil,List.mem_singleton] at hb;exact fun e=>hf (by rw [←hb,←e];exact ha)
 ·intro x hx;rcases List.mem_append.1 hx with hx | hx
  ·exact h.at_ x hx
  ·simp only [List.mem_singleton] at hx;subst hx;exact ht
 ·intro x hx;rcases List.mem_append.1 hx with hx | hx
  ·exact h.reach x hx
  ·simp only [List.mem_singleton] at hx;subst hx;exact hrf
 ·intro g hg;rcases List.mem_append.1 hg with hg | hg
  ·exact h.wok g (List.mem_append.2 (.inl hg))
  ·simp only [List.mem_cons,List.not_mem_nil,or_false] at hg;rcases hg with rfl | rfl
   ·exact ⟨hn.2.2.2.2.2.2.1,fun h2=>hrf.high ht h2⟩
   ·exact ⟨hn.2.2.2.2.2.1,fun h2=>hrf.low ht h2⟩
 ·intro x hx c hc h2;rcases List.mem_append.1 hx with hx | hx
  ·exact key c (h.closed x hx c hc h2)
  ·simp only [List.mem_singleton] at hx;subst hx;refine .inr (List.mem_append.2 (.inr ?_));rcases hc with rfl | rfl <;> simp
theorem NInv.done {S:ST} {roots:List Int} {xs:List (Int×Tri)} (h:NInv S roots [] xs):GoodNodes S roots xs:=by
 refine ⟨h.nodup,h.at_,fun f=>⟨fun hf=>?_,fun hr=>?_⟩⟩
 ·obtain ⟨x,hx,rfl⟩:=List.mem_map.1 hf;exact h.reach x hx
 ·refine hr (fun f=>f∈xs.map Prod.fst) (fun r hm h2=>by simpa using h.roots r hm h2) ?_;intro g v l hh hg ht;obtain ⟨x,hx,rfl⟩:=List.mem_map.1 hg;have e:=h.at_ x hx;rw [ht] at e;have e:=Option.some.inj e;constructor
  ·intro h2;simpa using h.closed x hx l (.inl (by rw [←e])) h2
  ·intro h2;simpa using h.closed x hx hh (.inr (by rw [←e])) h2
theorem NInv.length {S:ST} {roots ws:List Int} {xs:List (Int×Tri)} (h:NInv S roots ws xs):xs.length≤S.N.length:=by
 have:=nodup_len (xs.map Prod.fst) (S.N.map Prod.fst) h.nodup (fun f hf=>by
  obtain ⟨x,hx,rfl⟩:=List.mem_map.1 hf;exact List.mem_map.2 ⟨_,tQE (h.at_ x hx),rfl⟩)
 simpa using this
end
section
section
variable {S C:ST} {u d:Int} {m:Nat} {T:List Int} {hole:Option Tri}
end
end
section
section
variable {S C:ST} {u d:Int} {m:Nat}
end
end
section
section
variable {S S':ST}
theorem hangs (hw:WF S) {f v l h:Int} (ht:get S.N f=some (v,l,h)):¬ ∀ σ,S.den f (upd σ v true)=S.den f (upd σ v false):=by
 intro hc;obtain ⟨_,_,v0,v1,lh,okl,okh,pl,ph⟩:=hw.node f v l h ht;refine lh (den_inj hw okl okh fun σ=>?_);have:=hc σ;rw [mQB hw ht,mQB hw ht] at this;simp only [upd,if_true] at this;have e1:=bQB hw okh v0 v1 ph σ true;have e2:=bQB hw okl v0 v1 pl σ false;simp only [Bool.false_eq_true,if_false] at this;rw [e1,e2] at this;exact this.symm
end
end
section
open Go.RowKit
section
variable {P:Program} {K:TypeId} {α β:Type} {ek:α→Value} {ev:β→Value}
def cQB (ek:α→Value) (ev:β→Value) (w:World) (r:Nat) (L:List (α×β)):Prop:=
 ∃ es clock,w.heap[r]?=some (.map es clock)∧es.toList.map (fun e=>(e.key,e.val))=L.map (fun p=>(ek p.1,ev p.2)) ∧
  (es.toList.map (·.born)).Nodup∧(∀ e∈es.toList,e.born<clock)∧(L.map Prod.fst).Nodup
theorem cQB.of_heap {w w':World} {r:Nat} {L:List (α×β)} (h:cQB ek ev w r L) (e:w'.heap[r]?=w.heap[r]?):cQB ek ev w' r L:=by
 obtain ⟨es,clock,h1,h2⟩:=h;exact ⟨es,clock,e.trans h1,h2⟩
theorem cQB.lt {w:World} {r:Nat} {L:List (α×β)} (h:cQB ek ev w r L):r<w.heap.size:=by
 obtain ⟨es,clock,h1,h2⟩:=h;exact (Array.getElem?_eq_some_iff.1 h1).1
theorem cQB.new (w:World) (c:Nat):cQB ek ev (w.alloc (.map #[] c)) w.heap.size ([]:List (α×β)):=
 ⟨#[],c,(MapKept.heap_alloc w _).1,by simp,by simp,by simp,by simp⟩
def blk (w:World) (r:Nat) (o:Obj):World:={ w with heap:=w.heap.setIfInBounds r o }
theorem qQH {w:World} {r:Nat} {o o':Obj} (h:w.heap[r]?=some o):(blk w r o').heap[r]?=some o':=(MapKept.heap_set h).1
theorem iQB {w:World} {r:Nat} (o':Obj) {i:Nat} (hi:i≠r):(blk w r o').heap[i]?=w.heap[i]?:=by
 simp [blk,Ne.symm hi]
theorem run_clear {T:TypeId} {d:TypeDesc} (ht:P.underlying T=some d) {w:World} {r:Nat} {L:List (α×β)} (h:cQB ek ev w r L) (ty:TypeId) :
  ∃ o,(Builtin.clear_ #[T] ty #[.map (some r)]).run P w=.ok (.tuple #[]) (blk w r o)∧cQB ek ev (blk w r o) r ([]:List (α×β)):=by
 obtain ⟨es,clock,h1,h2,h3,h4,h5⟩:=h;refine ⟨.map #[] clock,?_,#[],clock,qQH h1,by simp,by simp,by simp,by simp⟩;have hcell:(#[Value.map (some r)])[0]?=some (.map (some r)):=rfl;have hty:(#[T])[0]?=some T:=rfl;unfold Builtin.clear_;simp only [hcell,hty,Sem.run_bind,run_underlying ht,Result.andThen_ok,MapKept.run_getObj_map h1,MapKept.run_setObj_map _ h1,Sem.run_pure];rfl
end
structure KeyOk (P:Program) (K:TypeId) {α:Type} [DecidableEq α] (ek:α→Value):Prop where
 check:∀ (em:Bool) (a:α) (w:World),(Instr.checkKey em 10000 K (ek a)).run P w=.ok () w
 eq:∀ (a b:α) (w:World),(Op.equal K (ek a) (ek b)).run P w=.ok (decide (a=b)) w
 under:∃ d,P.underlying K=some d∧∀ a b,Instr.sameNow d (ek a) (ek b)=none∨Instr.sameNow d (ek a) (ek b)=some (decide (a=b))
 stays:∀ (a:α) (w:World),(Instr.keyThatStays (ek a) (ek a)).run P w=.ok (ek a) w
section
variable {P:Program} {K:TypeId} {α β:Type} [DecidableEq α] {ek:α→Value} {ev:β→Value}
def spot (ev:β→Value):List (α×β)→α→Nat→Option (Nat×Value)
 | [],_,_=>none
 | p :: L,a,i=>if p.1=a then some (i,ev p.2) else spot ev L a (i+1)
theorem findNow_ok {d:TypeDesc} (hd:∀ a b,Instr.sameNow d (ek a) (ek b)=none∨Instr.sameNow d (ek a) (ek b)=some (decide (a=b))) (a:α) :
  ∀ (es:List MapEntry) (L:List (α×β)) (i:Nat),es.map (fun e=>(e.key,e.val))=L.map (fun p=>(ek p.1,ev p.2))→Instr.findNow d (ek a) es i=none∨Instr.findNow d (ek a) es i=some (spot ev L a i)
 | [],[],i,_=>.inr rfl
 | [],_ :: _,_,h=>by simp at h
 | _ :: _,[],_,h=>by simp at h
 | e :: es,p :: L,i,h=>by
  simp only [List.map_cons,List.cons.injEq,Prod.mk.injEq] at h;obtain ⟨⟨h1,h2⟩,h3⟩:=h;unfold Instr.findNow spot;rw [h1];rcases hd a p.1 with h0 | h0
  ·rw [h0];exact .inl rfl
  ·rw [h0];by_cases hp:p.1=a
   ·have:a=p.1:=hp.symm;simp [hp,h2]
   ·have:¬ a=p.1:=fun x=>hp x.symm;simp only [this,hp,decide_false,if_false];exact findNow_ok hd a es L (i+1) h3
theorem findAsking_ok (hk:KeyOk P K ek) (a:α) (w:World) :
  ∀ (es:List MapEntry) (L:List (α×β)) (i:Nat),es.map (fun e=>(e.key,e.val))=L.map (fun p=>(ek p.1,ev p.2))→(Instr.findAsking K (ek a) es i).run P w=.ok (spot ev L a i) w
 | [],[],i,_=>rfl
 | [],_ :: _,_,h=>by simp at h
 | _ :: _,[],_,h=>by simp at h
 | e :: es,p :: L,i,h=>by
  simp only [List.map_cons,List.cons.injEq,Prod.mk.injEq] at h;obtain ⟨⟨h1,h2⟩,h3⟩:=h;unfold Instr.findAsking spot;rw [h1];simp only [Sem.run_bind,hk.eq,Result.andThen_ok];by_cases hp:p.1=a
  ·simp [hp,h2]
  ·have:¬ a=p.1:=fun x=>hp x.symm;simp only [this,hp,decide_false,if_false,Bool.false_eq_true];exact findAsking_ok hk a w es L (i+1) h3
theorem rQF (hk:KeyOk P K ek) (a:α) (w:World) (es:List MapEntry) (L:List (α×β)) (h:es.map (fun e=>(e.key,e.val))=L.map (fun p=>(ek p.1,ev p.2))) :
  (Instr.findKey K (ek a) es).run P w=.ok (spot ev L a 0) w:=by
 obtain ⟨d,hd,hs⟩:=hk.under;unfold Instr.findKey;simp only [Sem.run_bind,run_underlying hd,Result.andThen_ok];rcases findNow_ok hs a es L 0 h with h0 | h0
 ·rw [h0];exact findAsking_ok hk a w es L 0 h
 ·rw [h0];rfl
theorem lQJ (a:α):∀ (L:List (α×β)) (i:Nat),(spot ev L a i=none∧get L a=none)∨∃ j v,spot ev L a i=some (i+j,ev v)∧get L a=some v∧L[j]?=some (a,v)
 | [],i=>.inl ⟨rfl,rfl⟩
 | p :: L,i=>by
  unfold spot;rw [bQE];by_cases hp:p.1=a
  ·subst hp;exact .inr ⟨0,p.2,by simp,by simp,by simp⟩
  ·simp only [hp,if_false];rcases lQJ a L (i+1) with h | ⟨j,v,h1,h2,h3⟩
   ·exact .inl h
   ·exact .inr ⟨j+1,v,by rw [h1];congr 2;omega,h2,by simpa using h3⟩
theorem xQD {T E:TypeId} (ht:P.underlying T=some (.map K E)) (hk:KeyOk P K ek) {z:Value} (hz:∀ w,(zeroValue E).run P w=.ok z w) {w:World} {r:Nat} {L:List (α×β)} (h:cQB ek ev w r L) (a:α) (c:Bool) :
  (Instr.lookup T (.map (some r)) (ek a) c).run P w=.ok (if c then .tuple #[((get L a).map ev).getD z,.bool (get L a).isSome] else ((get L a).map ev).getD z) w:=by
 obtain ⟨es,clock,h1,h2,h3,h4,h5⟩:=h;unfold Instr.lookup;simp only [Sem.run_bind,run_underlying ht,Result.andThen_ok,MapKept.run_getObj_map h1,Sem.run_pure,hk.check,rQF hk a w es.toList L h2];rcases lQJ (ev:=ev) a L 0 with ⟨hs,hg⟩ | ⟨j,v,hs,hg,_⟩
 ·rw [hs,hg];simp only [Sem.run_bind,hz,Result.andThen_ok,Sem.run_pure,Option.map_none,Option.getD_none,Option.isSome_none]
 ·rw [hs,hg];simp only [Option.map_some,Option.getD_some,Option.isSome_some];rfl
theorem wQG {T E:TypeId} (ht:P.underlying T=some (.map K E)) (hk:KeyOk P K ek) {w:World} {r:Nat} {L:List (α×β)} (h:cQB ek ev w r L) (a:α) (v:β) :
  ∃ o,(Instr.mapUpdate T (.map (some r)) (ek a) (ev v)).run P w=.ok () (blk w r o)∧cQB ek ev (blk w r o) r (put L a v):=by
 obtain ⟨es,clock,h1,h2,h3,h4,h5⟩:=h;unfold Instr.mapUpdate;simp only [Sem.run_bind,run_underlying ht,Result.andThen_ok,MapKept.run_getObj_map h1,hk.check,rQF hk a w es.toList L h2];rcases lQJ (ev:=ev) a L 0 with ⟨hs,hg⟩ | ⟨j,v0,hs,hg,hj⟩
 ·rw [hs];refine ⟨.map (es.push { key:=ek a,val:=ev v,born:=clock }) (clock+1),MapKept.run_setObj_map _ h1,_,_,qQH h1,?_,?_,?_,nodup_put h5 a v⟩
  ·simp [put,hg,h2]
  ·simp only [Array.toList_push,List.map_append,List.map_cons,List.map_nil];refine List.nodup_append.2 ⟨h3,by simp,?_⟩;intro x hx y hy;simp only [List.mem_singleton] at hy;subst hy;obtain ⟨e,he,rfl⟩:=List.mem_map.1 hx;exact Nat.ne_of_lt (h4 e he)
  ·intro e he;simp only [Array.toList_push,List.mem_append,List.mem_singleton] at he;rcases he with he | rfl
   ·exact Nat.lt_succ_of_lt (h4 e he)
   ·exact Nat.lt_succ_self _
 ·rw [hs];have hlen:es.toList.length=L.length:=by have:=congrArg List.length h2;simpa using this
  have hjl:j<L.length:=(List.getElem?_eq_some_iff.1 hj).1;have hje:j<es.size:=by rw [←Array.length_toList,hlen];exact hjl
  have hkey:es[j].key=ek a:=by
   have:=congrArg (fun l:List (Value×Value)=>l[j]?) h2;simp only [List.getElem?_map,hj,Option.map_some,Array.getElem?_toList,Array.getElem?_eq_getElem hje,Option.some.injEq,Prod.mk.injEq] at this;exact this.1
  have hkey':((es[0+j]?).map (·.key)).getD (ek a)=ek a:=by simp [Array.getElem?_eq_getElem hje,hkey]
  have hrun:=MapKept.run_setObj_map (P:=P) (.map (es.modify (0+j) fun e=>{ e with key:=ek a,val:=ev v }) clock) h1;refine ⟨.map (es.modify (0+j) fun e=>{ e with key:=ek a,val:=ev v }) clock,?_,_,_,qQH h1,?_,?_,?_,nodup_put h5 a v⟩
  ·simp only [hkey',Sem.run_bind,hk.stays,Result.andThen_ok];exact hrun
  ·unfold put;simp only [hg,Option.isSome_some,if_true];rw [put_replaces h5 v hj];apply List.ext_getElem?;intro i;have h2i:=congrArg (fun l:List (Value×Value)=>l[i]?) h2;simp only [List.getElem?_map,Array.getElem?_toList,Array.getElem?_modify,List.getElem?_set,Nat.zero_add] at h2i ⊢;by_cases hij:j=i
   ·subst hij;simp [Array.getElem?_eq_getElem hje,hjl]
   ·simpa [hij] using h2i
  ·have:(es.modify (0+j) fun e=>{ e with key:=ek a,val:=ev v }).toList.map (·.born)=es.toList.map (·.born):=by
    apply List.ext_getElem?;intro i;simp only [List.getElem?_map,Array.getElem?_toList,Array.getElem?_modify];by_cases hij:0+j=i
    ·simp only [hij,if_true];cases es[i]? <;> simp
    ·simp only [hij,if_false]
   rw [this];exact h3
  ·intro e he;rw [Array.mem_toList_iff,Array.mem_iff_getElem?] at he;obtain ⟨i,hi⟩:=he;rw [Array.getElem?_modify] at hi;by_cases hij:0+j=i
   ·simp only [hij,if_true,Option.map_eq_some_iff] at hi;obtain ⟨e0,he0,rfl⟩:=hi;exact h4 e0 (Array.mem_toList_iff.2 (Array.mem_of_getElem? he0))
   ·simp only [hij,if_false] at hi;exact h4 e (Array.mem_toList_iff.2 (Array.mem_of_getElem? hi))
theorem run_del {T E:TypeId} (ht:P.underlying T=some (.map K E)) (hk:KeyOk P K ek) {w:World} {r:Nat} {L:List (α×β)} (h:cQB ek ev w r L) (a:α) (ty:TypeId) :
  ∃ o,(Builtin.delete_ #[T,K] ty #[.map (some r),ek a]).run P w=.ok (.tuple #[]) (blk w r o)∧cQB ek ev (blk w r o) r (del L a):=by
 obtain ⟨es,clock,h1,h2,h3,h4,h5⟩:=h;have hcell:(#[Value.map (some r),ek a])[0]?=some (.map (some r)):=rfl;have hcell1:(#[Value.map (some r),ek a])[1]?=some (ek a):=rfl;have hty:(#[T,K])[0]?=some T:=rfl;unfold Builtin.delete_;simp only [hcell,hcell1,hty,Sem.run_bind,run_underlying ht,Result.andThen_ok,MapKept.run_getObj_map h1,hk.check,rQF hk a w es.toList L h2];rcases lQJ (ev:=ev) a L 0 with ⟨hs,hg⟩ | ⟨j,v0,hs,hg,hj⟩
 ·rw [hs,del_absent hg];refine ⟨.map es clock,?_,es,clock,qQH h1,h2,h3,h4,h5⟩;rw [Sem.run_bind,MapKept.run_setObj_map _ h1];rfl
 ·rw [hs];have hlen:es.toList.length=L.length:=by have:=congrArg List.length h2;simpa using this
  have hjl:j<L.length:=(List.getElem?_eq_some_iff.1 hj).1;have hje:j<es.size:=by rw [←Array.length_toList,hlen];exact hjl
  have hE:(es.eraseIdxIfInBounds (0+j)).toList=es.toList.eraseIdx j:=by simp
  refine ⟨.map (es.eraseIdxIfInBounds (0+j)) clock,?_,_,_,qQH h1,?_,?_,?_,nodup_del h5 a⟩
  ·rw [Sem.run_bind,MapKept.run_setObj_map _ h1];rfl
  ·rw [hE,del_erases h5 hj,ChangeMaps.map_eraseIdx,ChangeMaps.map_eraseIdx,h2]
  ·rw [hE,ChangeMaps.map_eraseIdx];exact h3.sublist (List.eraseIdx_sublist _ _)
  ·rw [hE];intro e he;exact h4 e ((List.eraseIdx_sublist _ _).mem he)
end
end
section
open Go.RowKit
def eI (n:Int):Value:=.int .i64 n
def eT (t:Tri):Value:=.agg #[.int .i64 t.1,.int .i64 t.2.1,.int .i64 t.2.2]
def eU (_:Unit):Value:=.agg #[]
theorem zero3 (w:World):(zeroValue 3).run prog w=.ok (.int .i64 0) w:=by kernel_rfl
theorem zero228 (w:World):(zeroValue 228).run prog w=.ok (.agg #[.int .i64 0,.int .i64 0,.int .i64 0]) w:=by kernel_rfl
theorem zero339 (w:World):(zeroValue 339).run prog w=.ok (.agg #[]) w:=by kernel_rfl
theorem key3:KeyOk prog 3 eI where
 check em a w:=MapKept.run_checkKey underlying3 (by simp [MapKept.IsKey,eI]) em 9999
 eq a b w:=by
  simp only [Op.equal,Op.maxDepth,eI];rw [run_equalIn_int w 9999 3 .i64 .i64 a b underlying3];rfl
 under:=⟨_,underlying3,fun a b=>.inr (by simp only [Instr.sameNow,eI,if_true];rfl)⟩
 stays a w:=by simp [Instr.keyThatStays,eI,Instr.sameBits]
theorem stood228:prog.stoodInHeld 228=false:=by kernel_rfl
theorem stood285:prog.stoodInHeld 285=false:=by kernel_rfl
theorem fields228:prog.underlying 228=some (.struct (prog.fieldsOf 228)):=by kernel_rfl
theorem fields285:prog.underlying 285=some (.struct (prog.fieldsOf 285)):=by kernel_rfl
theorem part3 (cs:Array Value) (off:Nat) (v:Value) (h:cs[off]?=some v) (w:World):(part 3 cs off).run prog w=.ok v w:=by
 have ha:∀ w,(isAgg 3).run prog w=.ok false w:=fun w=>by kernel_rfl
 unfold part;rw [Sem.run_bind,ha,Result.andThen_ok];simp only [Bool.false_eq_true,if_false,h];rfl
theorem part30 (x y z:Value) (w:World):(part 3 #[x,y,z] 0).run prog w=.ok x w:=part3 _ _ _ rfl w
theorem part31 (x y z:Value) (w:World):(part 3 #[x,y,z] 1).run prog w=.ok y w:=part3 _ _ _ rfl w
theorem part32 (x y z:Value) (w:World):(part 3 #[x,y,z] 2).run prog w=.ok z w:=part3 _ _ _ rfl w
theorem eqF (d : Nat) (f1 f2 f3 : Field) (h1 : f1.type = 3 ∧ f1.offset = 0 ∧ f1.name ≠ "_") (h2 : f2.type = 3 ∧ f2.offset = 1 ∧ f2.name ≠ "_") (h3 : f3.type = 3 ∧ f3.offset = 2 ∧ f3.name ≠ "_") (a b : Tri) (w : World) :
  (Op.eqFields (d+1) #[.int .i64 a.1,.int .i64 a.2.1,.int .i64 a.2.2] #[.int .i64 b.1,.int .i64 b.2.1,.int .i64 b.2.2] [f1,f2,f3]).run prog w=.ok (decide (a=b)) w:=by
 obtain ⟨a1,a2,a3⟩:=a;obtain ⟨b1,b2,b3⟩:=b;simp only [Op.eqFields,h1,h2,h3,ne_eq,not_false_eq_true,if_true,Sem.run_bind,part30,part31,part32,Result.andThen_ok,run_equalIn_int _ d 3 .i64 .i64 _ _ underlying3,Sem.run_ite,Sem.run_pure];by_cases e1:a1=b1
 ·by_cases e2:a2=b2
  ·by_cases e3:a3=b3
   ·simp [e1,e2,e3]
   ·simp [e1,e2,e3]
  ·simp [e1,e2]
 ·simp [e1]
theorem eq228 (a b:Tri) (w:World):(Op.equal 228 (eT a) (eT b)).run prog w=.ok (decide (a=b)) w:=by
 simp only [Op.equal,Op.maxDepth,eT];rw [run_equalIn_struct w 9999 228 _ _ fields228 stood228];simp only [Program.fieldsOf,underlying228];exact eqF 9998 _ _ _ ⟨rfl,rfl,by decide⟩ ⟨rfl,rfl,by decide⟩ ⟨rfl,rfl,by decide⟩ a b w
theorem eq285 (a b:Tri) (w:World):(Op.equal 285 (eT a) (eT b)).run prog w=.ok (decide (a=b)) w:=by
 simp only [Op.equal,Op.maxDepth,eT];rw [run_equalIn_struct w 9999 285 _ _ fields285 stood285];simp only [Program.fieldsOf,underlying285];exact eqF 9998 _ _ _ ⟨rfl,rfl,by decide⟩ ⟨rfl,rfl,by decide⟩ ⟨rfl,rfl,by decide⟩ a b w
theorem stays3 (t:Tri) (w:World):(Instr.keyThatStays (eT t) (eT t)).run prog w=.ok (eT t) w:=by
 have:Instr.sameBits 10000 (eT t) (eT t)=true:=by simp [eT,Instr.sameBits]
 simp [Instr.keyThatStays,this]
theorem check3 (em:Bool) (d:Nat) (a:Int) (w:World):(Instr.checkKey em (d+1) 3 (.int .i64 a)).run prog w=.ok () w:=MapKept.run_checkKey underlying3 (by simp [MapKept.IsKey]) em d
theorem check80 (em:Bool) (t:Tri) (w:World):(Instr.checkKey em 10000 228 (eT t)).run prog w=.ok () w:=by
 rw [show (10000:Nat)=9998+1+1 from rfl,eT];unfold Instr.checkKey;simp only [Sem.run_bind,run_underlying underlying228,Result.andThen_ok];rw [←Array.forIn_toList];simp [part30,part31,part32,check3]
theorem check82 (em:Bool) (t:Tri) (w:World):(Instr.checkKey em 10000 285 (eT t)).run prog w=.ok () w:=by
 rw [show (10000:Nat)=9998+1+1 from rfl,eT];unfold Instr.checkKey;simp only [Sem.run_bind,run_underlying underlying285,Result.andThen_ok];rw [←Array.forIn_toList];simp [part30,part31,part32,check3]
theorem key228:KeyOk prog 228 eT:=⟨check80,eq228,⟨_,underlying228,fun _ _=>.inl rfl⟩,stays3⟩
theorem key285:KeyOk prog 285 eT:=⟨check82,eq285,⟨_,underlying285,fun _ _=>.inl rfl⟩,stays3⟩
theorem hide {p:Prop} (h:p):Hid p:=h
structure aQA (T:List Nat) (w w':World):Prop where
 os:w'.os=w.os
 tape:w'.tape=w.tape
 output:w'.output=w.output
 size:w.heap.size≤w'.heap.size
 block:∀ i,i<w.heap.size→i∉T→w'.heap[i]?=w.heap[i]?
theorem aQA.refl (T:List Nat) (w:World):aQA T w w:=⟨rfl,rfl,rfl,Nat.le_refl _,fun _ _ _=>rfl⟩
theorem aQA.trans {T:List Nat} {a b c:World} (h:aQA T a b) (k:aQA T b c):aQA T a c:=
 ⟨k.os.trans h.os,k.tape.trans h.tape,k.output.trans h.output,Nat.le_trans h.size k.size,fun i hi hT=>(k.block i (Nat.lt_of_lt_of_le hi h.size) hT).trans (h.block i hi hT)⟩
theorem aQA.mono {T T':List Nat} {w w':World} (h:aQA T w w') (hT:∀ i∈T,i∈T'):aQA T' w w':=
 ⟨h.os,h.tape,h.output,h.size,fun i hi hn=>h.block i hi fun x=>hn (hT i x)⟩
theorem aQA.trans_new {T T':List Nat} {a b c:World} (h:aQA T a b) (k:aQA T' b c) (hT:∀ i∈T',i∈T∨a.heap.size≤i):aQA T a c:=
 ⟨k.os.trans h.os,k.tape.trans h.tape,k.output.trans h.output,Nat.le_trans h.size k.size,fun i hi hn=>(k.block i (Nat.lt_of_lt_of_le hi h.size) (fun x=>by
  rcases hT i x with h1 | h1
  ·exact hn h1
  ·omega)).trans (h.block i hi hn)⟩
theorem aQA.drewN (T:List Nat) (w:World) (n:Nat):aQA T w (w.drewN n):=⟨rfl,rfl,rfl,Nat.le_refl _,fun _ _ _=>rfl⟩
theorem aQA.drew (T:List Nat) (w:World):aQA T w w.drew:=⟨rfl,rfl,rfl,Nat.le_refl _,fun _ _ _=>rfl⟩
theorem aQA.alloc (T:List Nat) (w:World) (o:Obj):aQA T w (w.alloc o):=⟨rfl,rfl,rfl,by simp,fun i hi _=>Go.RowKit.Below.heap_alloc w o i hi⟩
theorem aQA.setCell (w:World) (a:Addr) (v:Value):aQA [a.block] w (w.setCell a v):=⟨rfl,rfl,rfl,by simp [World.setCell],fun i _ hn=>Go.RowKit.Below.heap_setCell w a v i (by simpa using hn)⟩
theorem aQA.blk (w:World) (r:Nat) (o:Obj):aQA [r] w (blk w r o):=⟨rfl,rfl,rfl,by simp [YtgjomknpjigkhaaGreatDoor.blk],fun i _ hn=>iQB o (by simpa using hn)⟩
def cQA (w:World) (b:Nat) (cs:Array Value):Prop:=∃ t,w.heap[b]?=some (.cells cs t (0,0))
theorem cQA.cell {w:World} {b:Nat} {cs:Array Value} (h:cQA w b cs) (i:Nat):w.cell? ⟨b,i,none⟩=cs[i]?:=by
 obtain ⟨t,h⟩:=h;simp [World.cell?,h]
theorem cQA.frozen {w:World} {b:Nat} {cs:Array Value} (h:cQA w b cs) (i:Nat):w.frozen? ⟨b,i,none⟩=false:=by
 obtain ⟨t,h⟩:=h;simp [World.frozen?,h]
theorem cQA.lt {w:World} {b:Nat} {cs:Array Value} (h:cQA w b cs):b<w.heap.size:=by
 obtain ⟨t,h⟩:=h;exact (Array.getElem?_eq_some_iff.1 h).1
theorem cQA.of_heap {w w':World} {b:Nat} {cs:Array Value} (h:cQA w b cs) (e:w'.heap[b]?=w.heap[b]?):cQA w' b cs:=by
 obtain ⟨t,h⟩:=h;exact ⟨t,e.trans h⟩
theorem cQA.setCell {w:World} {b:Nat} {cs:Array Value} (h:cQA w b cs) (i:Nat) (v:Value):cQA (w.setCell ⟨b,i,none⟩ v) b (cs.setIfInBounds i v):=by
 obtain ⟨t,h⟩:=h;exact ⟨t,by simp [World.setCell,Array.getElem?_modify,h]⟩
theorem cQA.new (w:World) (cs:Array Value) (t:TypeId):cQA (w.alloc (.cells cs t)) w.heap.size cs:=⟨t,(MapKept.heap_alloc w _).1⟩
theorem cQA.keeps {w w':World} {b:Nat} {cs:Array Value} {T:List Nat} (h:cQA w b cs) (k:aQA T w w') (hb:b∉T):cQA w' b cs:=h.of_heap (k.block b h.lt hb)
def lQB (w:World) (b:Nat) (xs:List Int):Prop:=∃ cs,cQA w b cs∧∀ (i:Nat) (x:Int),xs[i]?=some x→cs[i]?=some (.int .i64 x)
theorem lQB.of_heap {w w':World} {b:Nat} {xs:List Int} (h:lQB w b xs) (e:w'.heap[b]?=w.heap[b]?):lQB w' b xs:=by
 obtain ⟨cs,h1,h2⟩:=h;exact ⟨cs,h1.of_heap e,h2⟩
theorem lQB.lt {w:World} {b:Nat} {xs:List Int} (h:lQB w b xs):b<w.heap.size:=by
 obtain ⟨cs,h1,h2⟩:=h;exact h1.lt
theorem lQB.cell {w:World} {b:Nat} {xs:List Int} (h:lQB w b xs) {i:Nat} {x:Int} (hx:xs[i]?=some x):w.cell? ⟨b,i,none⟩=some (.int .i64 x):=by
 obtain ⟨cs,h1,h2⟩:=h;rw [h1.cell,h2 i x hx]
structure SB where
 b:Nat
 bo:Nat
 bp:Nat
 rn:Nat
 ru:Nat
 rk:Nat
 co:Nat
 cp:Nat
def SB.own (B:SB):List Nat:=[B.b,B.bo,B.bp,B.rn,B.ru,B.rk]
structure gQA (w:World) (B:SB) (S:ST):Prop where
 head:cQA w B.b #[.slice (some ⟨B.bo,0,none⟩) S.order.length B.co,.slice (some ⟨B.bp,0,none⟩) S.place.length B.cp,.map (some B.rn),.map (some B.ru),.int .i64 S.next,.map (some B.rk)]
 order:lQB w B.bo S.order
 place:lQB w B.bp S.place
 nodes:cQB eI eT w B.rn S.N
 numbers:cQB eT eI w B.ru S.U
 known:cQB eT eI w B.rk S.K
 apart:B.own.Nodup
theorem gQA.of_heap {w w':World} {B:SB} {S:ST} (h:gQA w B S) (e:∀ i∈B.own,w'.heap[i]?=w.heap[i]?):gQA w' B S:=
 ⟨h.head.of_heap (e _ (by simp [SB.own])),h.order.of_heap (e _ (by simp [SB.own])),h.place.of_heap (e _ (by simp [SB.own])),h.nodes.of_heap (e _ (by simp [SB.own])),h.numbers.of_heap (e _ (by simp [SB.own])),h.known.of_heap (e _ (by simp [SB.own])),h.apart⟩
theorem gQA.lt {w:World} {B:SB} {S:ST} (h:gQA w B S):∀ i∈B.own,i<w.heap.size:=by
 intro i hi;simp only [SB.own,List.mem_cons,List.not_mem_nil,or_false] at hi;rcases hi with rfl | rfl | rfl | rfl | rfl | rfl
 ·exact h.head.lt
 ·exact h.order.lt
 ·exact h.place.lt
 ·exact h.nodes.lt
 ·exact h.numbers.lt
 ·exact h.known.lt
theorem gQA.keeps {w w':World} {B:SB} {S:ST} {T:List Nat} (h:gQA w B S) (k:aQA T w w') (hT:∀ i∈B.own,i∉T):gQA w' B S:=
 h.of_heap fun i hi=>k.block i (h.lt i hi) (hT i hi)
theorem gQA.drewN {w:World} {B:SB} {S:ST} (h:gQA w B S) (n:Nat):gQA (w.drewN n) B S:=h.of_heap fun _ _=>rfl
theorem gQA.alloc {w:World} {B:SB} {S:ST} (h:gQA w B S) (o:Obj):gQA (w.alloc o) B S:=h.keeps (aQA.alloc [] w o) (by simp)
theorem gQA.drew {w:World} {B:SB} {S:ST} (h:gQA w B S):gQA w.drew B S:=h.of_heap fun _ _=>rfl
theorem SB.own_ne {B:SB} (h:B.own.Nodup):B.b≠B.bo∧B.b≠B.bp∧B.b≠B.rn∧B.b≠B.ru∧B.b≠B.rk∧B.bo≠B.bp∧B.bo≠B.rn∧B.bo≠B.ru∧B.bo≠B.rk∧B.bp≠B.rn∧B.bp≠B.ru∧B.bp≠B.rk∧B.rn≠B.ru∧B.rn≠B.rk∧B.ru≠B.rk:=by
 simp only [SB.own,List.nodup_cons,List.mem_cons,List.not_mem_nil,or_false,not_or] at h;obtain ⟨⟨h1,h2,h3,h4,h5⟩,⟨h6,h7,h8,h9⟩,⟨h10,h11,h12⟩,⟨h13,h14⟩,h15,_⟩:=h;exact ⟨h1,h2,h3,h4,h5,h6,h7,h8,h9,h10,h11,h12,h13,h14,h15⟩
theorem gQA.nodesBlk {w:World} {B:SB} {S:ST} (h:gQA w B S) {o:Obj} {N:List (Int×Tri)} (hm:cQB eI eT (blk w B.rn o) B.rn N):gQA (blk w B.rn o) B { S with N:=N }:=by
 obtain ⟨h1,h2,h3,h4,h5,h6,h7,h8,h9,h10,h11,h12,h13,h14,h15⟩:=SB.own_ne h.apart;exact ⟨h.head.of_heap (iQB o h3),h.order.of_heap (iQB o h7),h.place.of_heap (iQB o h10),hm,h.numbers.of_heap (iQB o h13.symm),h.known.of_heap (iQB o h14.symm),h.apart⟩
theorem gQA.numbersBlk {w:World} {B:SB} {S:ST} (h:gQA w B S) {o:Obj} {U:List (Tri×Int)} (hm:cQB eT eI (blk w B.ru o) B.ru U):gQA (blk w B.ru o) B { S with U:=U }:=by
 obtain ⟨h1,h2,h3,h4,h5,h6,h7,h8,h9,h10,h11,h12,h13,h14,h15⟩:=SB.own_ne h.apart;exact ⟨h.head.of_heap (iQB o h4),h.order.of_heap (iQB o h8),h.place.of_heap (iQB o h11),h.nodes.of_heap (iQB o h13),hm,h.known.of_heap (iQB o h15.symm),h.apart⟩
theorem gQA.knownBlk {w:World} {B:SB} {S:ST} (h:gQA w B S) {o:Obj} {K:List (Tri×Int)} (hm:cQB eT eI (blk w B.rk o) B.rk K):gQA (blk w B.rk o) B { S with K:=K }:=by
 obtain ⟨h1,h2,h3,h4,h5,h6,h7,h8,h9,h10,h11,h12,h13,h14,h15⟩:=SB.own_ne h.apart;exact ⟨h.head.of_heap (iQB o h5),h.order.of_heap (iQB o h9),h.place.of_heap (iQB o h12),h.nodes.of_heap (iQB o h14),h.numbers.of_heap (iQB o h15),hm,h.apart⟩
theorem gQA.nextCell {w:World} {B:SB} {S:ST} (h:gQA w B S) (n:Int):gQA (w.setCell ⟨B.b,4,none⟩ (.int .i64 n)) B { S with next:=n }:=by
 obtain ⟨h1,h2,h3,h4,h5,h6,h7,h8,h9,h10,h11,h12,h13,h14,h15⟩:=SB.own_ne h.apart;have e:∀ i,i≠B.b→(w.setCell ⟨B.b,4,none⟩ (.int .i64 n)).heap[i]?=w.heap[i]?:=fun i hi=>Go.RowKit.Below.heap_setCell w _ _ i hi;have hd:=h.head.setCell 4 (.int .i64 n);exact ⟨by simpa using hd,h.order.of_heap (e _ h1.symm),h.place.of_heap (e _ h2.symm),h.nodes.of_heap (e _ h3.symm),h.numbers.of_heap (e _ h4.symm),h.known.of_heap (e _ h5.symm),h.apart⟩
end
section
open Go.RowKit
theorem lQB.kept {w w':World} {b:Nat} {xs:List Int} {T:List Nat} (h:lQB w b xs) (k:aQA T w w') (hb:b∉T):lQB w' b xs:=h.of_heap (k.block b h.lt hb)
theorem cQB.kept {α β:Type} {ek:α→Value} {ev:β→Value} {w w':World} {r:Nat} {L:List (α×β)} {T:List Nat} (h:cQB ek ev w r L) (k:aQA T w w') (hb:r∉T):cQB ek ev w' r L:=h.of_heap (k.block r h.lt hb)
theorem bQA {w w':World} {base:Nat} {e:TypeId} {size n:Nat} {v:Value} {xs:List Value} {T:List Nat} (h:w.ownsRow base e size v n xs) (k:aQA T w w') (hT:∀ i,v.ownBlock=some i→i∉T):w'.ownsRow base e size v n xs:=by
 obtain ⟨h1,h2⟩:=h;refine ⟨h1,?_⟩;rcases h2 with h2 | ⟨g,cap,cur,rfl,hg,hh,r⟩
 ·exact .inl h2
 ·exact .inr ⟨g,cap,cur,rfl,hg,(k.block g (Array.getElem?_eq_some_iff.1 hh).1 (hT g rfl)).trans hh,r⟩
theorem sQE {w:World} {base base':Nat} {e:TypeId} {size n:Nat} {v:Value} {xs:List Value} (h:w.ownsRow base e size v n xs) (hb:base'≤base):w.ownsRow base' e size v n xs:=by
 obtain ⟨h1,h2⟩:=h;refine ⟨h1,?_⟩;rcases h2 with h2 | ⟨g,cap,cur,rfl,hg,r⟩
 ·exact .inl h2
 ·exact .inr ⟨g,cap,cur,rfl,Nat.le_trans hb hg,r⟩
theorem ownsRow_cell {w:World} {base g n cap:Nat} {xs:List Int} (h:w.ownsRow base 3 1 (.slice (some ⟨g,0,none⟩) n cap) n (xs.map (Value.int .i64))) {i:Nat} {x:Int} (hx:xs[i]?=some x):w.cell? ⟨g,i,none⟩=some (.int .i64 x):=by
 obtain ⟨h1,h2⟩:=h;rcases h2 with ⟨h2,_⟩ | ⟨g',cap',cur,e,hg,hh,hn,hm,hs,ht⟩
 ·cases h2
 ·cases e;have hi:i<xs.length:=(List.getElem?_eq_some_iff.1 hx).1;have e1:(cur.toList.take (n * 1))[i]?=some (.int .i64 x):=by rw [ht,List.getElem?_map,hx];rfl
  rw [List.length_map,Nat.mul_one] at h1;rw [List.getElem?_take_of_lt (by omega)] at e1;have:cur[i]?=some (.int .i64 x):=by rw [←Array.getElem?_toList];exact e1
  simp [World.cell?,hh,this]
theorem ownsRow_at {w:World} {base g n cap:Nat} {xs:List Value} (h:w.ownsRow base 3 1 (.slice (some ⟨g,0,none⟩) n cap) n xs):base≤g∧g<w.heap.size∧n≤cap∧cap≤maxLen:=by
 obtain ⟨h1,h2⟩:=h;rcases h2 with ⟨h2,_⟩ | ⟨g',cap',cur,e,hg,hh,hn,hm,hs,ht⟩
 ·cases h2
 ·cases e;exact ⟨hg,(Array.getElem?_eq_some_iff.1 hh).1,hn,hm⟩
theorem info3:(prog.info? 3).map (fun i=>(i.zero,i.size,i.bytes))=some (some (.int .i64 0),1,8):=by kernel_rfl
def ints (xs:List Int):List Value:=xs.map (Value.int .i64)
theorem ints_get (xs:List Int) (j:Nat) (u:Value) (h:(ints xs)[j]?=some u):∃ x,xs[j]?=some x∧u=.int .i64 x:=by
 unfold ints at h;rw [List.getElem?_map] at h;obtain ⟨x,hx,e⟩:=Option.map_eq_some_iff.1 h;exact ⟨x,hx,e.symm⟩
theorem wQF (xs:List Int):∀ u∈ints xs,u.oneCell' = true:=ints_oneCell .i64 xs
theorem grownBy_keeps' {w w':World} {row:Option Nat} (h:w.grownBy w' row) (T:List Nat) (hr:∀ r,row=some r→r∈T∨w.heap.size≤r):aQA T w w':=
 ⟨h.os,h.tape,h.output,h.size,fun i hi hn=>h.block i hi (fun e=>by
  rcases hr i e.symm with x | x
  ·exact hn x
  ·omega)⟩
theorem clone_calls {w:World} {g cap:Nat} {xs:List Int} (h:lQB w g xs) (hl:xs.length≤1000000000) :
  Calls prog 220 #[.slice (some ⟨g,0,none⟩) xs.length cap] w fun e w'=>∃ v,e=.returned v∧w'.ownsRow w.heap.size 3 1 v xs.length (ints xs)∧aQA [] w w'∧v≠.slice none 0 0:=by
 obtain ⟨i0,hi,hz0,hz1,hz2⟩:=info_parts info3;have heq:=fun (w:World) (n c:Nat)=>Lib.run_eql_slice_nil (P:=prog) w 40 3 (some ⟨g,0,none⟩) n c 0 0 underlying40;have hk0:=aQA.alloc [] w (.cells #[] 3);have hown:(w.alloc (.cells #[] 3)).ownsRow w.heap.size 3 1 (.slice (some ⟨w.heap.size,0,none⟩) 0 0) 0 []:=
  ⟨rfl,.inr ⟨w.heap.size,0,#[],rfl,Nat.le_refl _,(MapKept.heap_alloc w _).1,Nat.le_refl _,Nat.zero_le _,rfl,rfl⟩⟩
 have hcell:∀ (j:Nat) (u:Value),(ints xs)[j]?=some u→(w.alloc (.cells #[] 3)).cell? ((⟨g,0,none⟩:Addr).add j)=some u:=by
  intro j u hu;obtain ⟨x,hx,rfl⟩:=ints_get xs j u hu;rw [Addr.add_lit,Nat.zero_add];exact (h.of_heap (hk0.block g h.lt (by simp))).cell hx
 go_enter func220,ntmps220
 go_wp2_with (at_builtin;refine wpList_append_own _ rfl _ _ 40 rfl w.heap.size 3 i0 (.int .i64 0) 1 8 underlying40 hi hz0 hz1 hz2 rfl (by decide) _ 0 [] rfl hown ⟨g,0,none⟩ xs.length cap (ints xs) rfl (by simp [ints]) hcell (wQF xs) (by unfold maxLen;omega) (by omega) (by simp) ?_)
 intro v w1 h1 h2 h3;have H1:=hide h1;have H3:=hide h3;clear h1 h3;go_wp2
 go_ret
 refine ⟨v,rfl,by simpa using H1.out,hk0.trans_new (grownBy_keeps' h2 [w.heap.size] (fun r e=>?_)) (fun i hi=>?_),fun e=>?_⟩
 ·simp only [Value.ownBlock,Option.some.injEq] at e;exact .inl (by simp [e])
 ·simp only [List.mem_singleton] at hi;exact .inr (by omega)
 ·exact H3.out e
end
section
open Go.RowKit
theorem dQA (w:World) (o:Obj):(w.alloc o).heap.size=w.heap.size+1:=by simp
theorem fQA {w:World} {base:Nat} {e:TypeId} {size:Nat} {v:Value} {n:Nat} {xs:List Value} (h:w.ownsRow base e size v n xs):∃ a c,v=.slice a n c:=by
 rcases h.2 with ⟨rfl,rfl⟩ | ⟨g,cap,cur,e,_⟩
 ·exact ⟨_,_,rfl⟩
 ·exact ⟨_,_,e⟩
theorem yQG {w:World} {base:Nat} {e:TypeId} {size g n c:Nat} {xs:List Value} (h:w.ownsRow base e size (.slice (some ⟨g,0,none⟩) n c) n xs) {i:Nat} {x:Value} (hx:xs[i]?=some x):w.cell? ⟨g,i,none⟩=some x:=by
 have:=World.ownsRow.cells h (g:=g) rfl i x hx;rw [Addr.add_lit,Nat.zero_add] at this;exact this
theorem hQA {w:World} {base:Nat} {e:TypeId} {size n:Nat} {v:Value} {xs:List Value} (h:w.ownsRow base e size v n xs):∀ i,v.ownBlock=some i→base≤i∧∃ cs t,w.heap[i]?=some (.cells cs t (0,0)):=by
 intro i hi;obtain ⟨_,⟨rfl,_⟩ | ⟨g,cap,cur,rfl,hb,hg,_⟩⟩:=h
 ·simp [Value.ownBlock] at hi
 ·simp only [Value.ownBlock,Option.some.injEq] at hi;subst hi;exact ⟨hb,_,_,hg⟩
end
section
open Go.RowKit
def bQH (x:Int):Bool:=decide (97≤x) && decide (x≤122)
def cQH (x:Int):Bool:=decide (65≤x) && decide (x≤90)
def hQC (x:Int):Bool:=decide (48≤x) && decide (x≤57)
theorem isSmall_calls {w:World} (x:Int):Calls prog 242 #[.int .u8 x] w fun e w'=>e=.returned (.bool (bQH x))∧w' = w:=by
 by_cases h1:97≤x
 ·by_cases h2:x≤122
  ·have hs:bQH x=true:=(by simp [bQH,h1,h2]);rw [hs];go_enter func242,ntmps242
   go_wp2_with fail
   go_ret
   exact ⟨rfl,rfl⟩
  ·have hs:bQH x=false:=(by simp [bQH,h2]);rw [hs];go_enter func242,ntmps242
   go_wp2_with fail
   go_ret
   exact ⟨rfl,rfl⟩
 ·have hs:bQH x=false:=by simp [bQH,h1]
  rw [hs];go_enter func242,ntmps242
  go_wp2_with fail
  go_ret
  exact ⟨rfl,rfl⟩
theorem isGreat_calls {w:World} (x:Int):Calls prog 244 #[.int .u8 x] w fun e w'=>e=.returned (.bool (cQH x))∧w' = w:=by
 by_cases h1:65≤x
 ·by_cases h2:x≤90
  ·have hs:cQH x=true:=(by simp [cQH,h1,h2]);rw [hs];go_enter func244,ntmps244
   go_wp2_with fail
   go_ret
   exact ⟨rfl,rfl⟩
  ·have hs:cQH x=false:=(by simp [cQH,h2]);rw [hs];go_enter func244,ntmps244
   go_wp2_with fail
   go_ret
   exact ⟨rfl,rfl⟩
 ·have hs:cQH x=false:=by simp [cQH,h1]
  rw [hs];go_enter func244,ntmps244
  go_wp2_with fail
  go_ret
  exact ⟨rfl,rfl⟩
theorem tQI {w:World} (x:Int):Calls prog 245 #[.int .u8 x] w fun e w'=>e=.returned (.bool (hQC x))∧w' = w:=by
 by_cases h1:48≤x
 ·by_cases h2:x≤57
  ·have hs:hQC x=true:=(by simp [hQC,h1,h2]);rw [hs];go_enter func245,ntmps245
   go_wp2_with fail
   go_ret
   exact ⟨rfl,rfl⟩
  ·have hs:hQC x=false:=(by simp [hQC,h2]);rw [hs];go_enter func245,ntmps245
   go_wp2_with fail
   go_ret
   exact ⟨rfl,rfl⟩
 ·have hs:hQC x=false:=by simp [hQC,h1]
  rw [hs];go_enter func245,ntmps245
  go_wp2_with fail
  go_ret
  exact ⟨rfl,rfl⟩
end
section
open Go.RowKit
def ltr (s:ByteArray) (i:Nat):Int:=if h:i<s.size then (s[i].toNat:Int) else 0
theorem ltr_at {s:ByteArray} {i:Nat} (h:i<s.size):((s[i]'h).toNat:Int)=ltr s i:=by unfold ltr;rw [dif_pos h]
def zQB (p:Int→Bool) (s:ByteArray) (i:Nat):Nat→Nat
 | 0=>i
 | k+1=>if p (ltr s i) then zQB p s (i+1) k else i
def hQB (p:Int→Bool) (s:ByteArray):Nat:=zQB p s 0 s.size
theorem spanFrom_le (p:Int→Bool) (s:ByteArray) (i k:Nat):i≤zQB p s i k∧zQB p s i k≤i+k:=by
 induction k generalizing i with
 | zero=>simp [zQB]
 | succ k ih=>
  simp only [zQB];split
  ·have:=ih (i+1);omega
  ·omega
theorem xQE (p:Int→Bool) (s:ByteArray):hQB p s≤s.size:=by have:=spanFrom_le p s 0 s.size;unfold hQB;omega
def bQJ (x:Int):Bool:=!(x == 10)
def aQD (x:Int):Bool:=bQH x || hQC x
theorem notEol_calls {w:World} (x:Int):Calls prog 196 #[.int .u8 x] w fun e w'=>e=.returned (.bool (bQJ x))∧w' = w:=by
 have hs:(x != 10)=bQJ x:=rfl;go_enter func196,ntmps196
 go_wp2_with fail
 go_ret
 exact ⟨by show Ending.returned (.bool (x != 10))=_;rw [hs],rfl⟩
theorem isWord_calls {w:World} (x:Int):Calls prog 286 #[.int .u8 x] w fun e w'=>e=.returned (.bool (aQD x))∧w' = w:=by
 have hl:=hide (fun w=>isSmall_calls (w:=w) x);have hd:=hide (fun w=>tQI (w:=w) x);have hw:aQD x=(bQH x || hQC x):=rfl;have Hw:=hide hw;clear hw;cases h1:bQH x with
 | true=>
  rw [h1] at hl Hw;go_enter func286,ntmps286
  go_wp2_with fail
  refine (hl.out _).mono ?_;rintro e w1 ⟨rfl,rfl⟩;go_wp2_with fail
  go_ret
  exact ⟨by rw [Hw.out];rfl,rfl⟩
 | false=>
  rw [h1] at hl Hw;go_enter func286,ntmps286
  go_wp2_with fail
  refine (hl.out _).mono ?_;rintro e w1 ⟨rfl,rfl⟩;go_wp2_with fail
  refine (hd.out _).mono ?_;rintro e w1 ⟨rfl,rfl⟩;go_wp2_with fail
  go_ret
  exact ⟨by rw [Hw.out];rfl,rfl⟩
theorem span_isDig {w:World} (s:ByteArray) (hs:s.size≤10000000) :
  Calls prog 195 #[.string s,.func (.func 245) #[] #[]] w fun e w'=>e=.returned (.int .i64 (hQB hQC s))∧w' = w:=by
 have Hf:=hide (fun (w:World) (x:Int)=>tQI (w:=w) x);go_enter func195,ntmps195
 go_wp2_with fail
 go_loopw [8] (fun y wr=>∃ i:Nat,y=.int .i64 i∧i≤s.size∧hQB hQC s=zQB hQC s i (s.size - i)∧wr=w) (fun y _=>((s.size:Int) - intOf y).toNat)
 case atStart=>exact ⟨0,rfl,by omega,rfl,rfl⟩
 case round=>
  obtain ⟨i,rfl,hi,hsp,rfl⟩:=hrel;by_cases hil:i<s.size
  ·have hiI:(i:Int)<s.size:=(by omega);rw [show s.size - i=(s.size - (i+1))+1 by omega,zQB] at hsp;have Hsp:=hide hsp;clear hsp;have hl:=ltr_at hil;go_wp2_with fail
   refine (Hf.out _ _).mono ?_;rintro e w1 ⟨rfl,rfl⟩;cases hp:hQC (ltr s i) with
   | true=>
    go_wp2_with fail
    go_roundw
    ·exact ⟨i+1,by simp,by omega,by rw [Hsp.out,if_pos hp],trivial⟩
    ·simp only [intOf];omega
   | false=>
    go_wp2_with fail
    go_ret
    exact ⟨by show Ending.returned (.int .i64 ((i:Nat):Int))=_;rw [Hsp.out,if_neg (by simp [hp])],rfl⟩
  ·have hiI:¬ (i:Int)<s.size:=(by omega);have e:i=s.size:=(by omega);rw [e,Nat.sub_self,zQB] at hsp;have Hsp:=hide hsp;clear hsp e;go_wp2_with fail
   go_ret
   exact ⟨by show Ending.returned (.int .i64 ((s.size:Nat):Int))=_;rw [Hsp.out],rfl⟩
theorem span_isWord {w:World} (s:ByteArray) (hs:s.size≤10000000) :
  Calls prog 195 #[.string s,.func (.func 286) #[] #[]] w fun e w'=>e=.returned (.int .i64 (hQB aQD s))∧w' = w:=by
 have Hf:=hide (fun (w:World) (x:Int)=>isWord_calls (w:=w) x);go_enter func195,ntmps195
 go_wp2_with fail
 go_loopw [8] (fun y wr=>∃ i:Nat,y=.int .i64 i∧i≤s.size∧hQB aQD s=zQB aQD s i (s.size - i)∧wr=w) (fun y _=>((s.size:Int) - intOf y).toNat)
 case atStart=>exact ⟨0,rfl,by omega,rfl,rfl⟩
 case round=>
  obtain ⟨i,rfl,hi,hsp,rfl⟩:=hrel;by_cases hil:i<s.size
  ·have hiI:(i:Int)<s.size:=(by omega);rw [show s.size - i=(s.size - (i+1))+1 by omega,zQB] at hsp;have Hsp:=hide hsp;clear hsp;have hl:=ltr_at hil;go_wp2_with fail
   refine (Hf.out _ _).mono ?_;rintro e w1 ⟨rfl,rfl⟩;cases hp:aQD (ltr s i) with
   | true=>
    go_wp2_with fail
    go_roundw
    ·exact ⟨i+1,by simp,by omega,by rw [Hsp.out,if_pos hp],trivial⟩
    ·simp only [intOf];omega
   | false=>
    go_wp2_with fail
    go_ret
    exact ⟨by show Ending.returned (.int .i64 ((i:Nat):Int))=_;rw [Hsp.out,if_neg (by simp [hp])],rfl⟩
  ·have hiI:¬ (i:Int)<s.size:=(by omega);have e:i=s.size:=(by omega);rw [e,Nat.sub_self,zQB] at hsp;have Hsp:=hide hsp;clear hsp e;go_wp2_with fail
   go_ret
   exact ⟨by show Ending.returned (.int .i64 ((s.size:Nat):Int))=_;rw [Hsp.out],rfl⟩
theorem span_notEol {w:World} (s:ByteArray) (hs:s.size≤10000000) :
  Calls prog 195 #[.string s,.func (.func 196) #[] #[]] w fun e w'=>e=.returned (.int .i64 (hQB bQJ s))∧w' = w:=by
 have Hf:=hide (fun (w:World) (x:Int)=>notEol_calls (w:=w) x);go_enter func195,ntmps195
 go_wp2_with fail
 go_loopw [8] (fun y wr=>∃ i:Nat,y=.int .i64 i∧i≤s.size∧hQB bQJ s=zQB bQJ s i (s.size - i)∧wr=w) (fun y _=>((s.size:Int) - intOf y).toNat)
 case atStart=>exact ⟨0,rfl,by omega,rfl,rfl⟩
 case round=>
  obtain ⟨i,rfl,hi,hsp,rfl⟩:=hrel;by_cases hil:i<s.size
  ·have hiI:(i:Int)<s.size:=(by omega);rw [show s.size - i=(s.size - (i+1))+1 by omega,zQB] at hsp;have Hsp:=hide hsp;clear hsp;have hl:=ltr_at hil;go_wp2_with fail
   refine (Hf.out _ _).mono ?_;rintro e w1 ⟨rfl,rfl⟩;cases hp:bQJ (ltr s i) with
   | true=>
    go_wp2_with fail
    go_roundw
    ·exact ⟨i+1,by simp,by omega,by rw [Hsp.out,if_pos hp],trivial⟩
    ·simp only [intOf];omega
   | false=>
    go_wp2_with fail
    go_ret
    exact ⟨by show Ending.returned (.int .i64 ((i:Nat):Int))=_;rw [Hsp.out,if_neg (by simp [hp])],rfl⟩
  ·have hiI:¬ (i:Int)<s.size:=(by omega);have e:i=s.size:=(by omega);rw [e,Nat.sub_self,zQB] at hsp;have Hsp:=hide hsp;clear hsp e;go_wp2_with fail
   go_ret
   exact ⟨by show Ending.returned (.int .i64 ((s.size:Nat):Int))=_;rw [Hsp.out],rfl⟩
end
section
open Go.RowKit
def gQC (c l:Int):Ending:=.panicked [{ v:=.iface 28 (.agg #[.int .i64 c,.int .i64 l]),recovered:=false }]
theorem fQE {w:World} (c l:Int):Calls prog 132 #[.int .i64 c,.int .i64 l] w fun e w'=>e=gQC c l∧w' = w:=by
 go_enter func132,ntmps132
 go_wp2_with fail
 exact ⟨rfl,rfl,rfl⟩
theorem xQJ {w:World} (a b l:Int) (h:¬ b<a):Calls prog 246 #[.int .i64 a,.int .i64 b,.int .i64 l] w fun e w'=>e=.returned (.tuple #[])∧w' = w:=by
 go_enter func246,ntmps246
 go_wp2_with fail
 go_end0
 exact ⟨rfl,rfl⟩
theorem cQJ {w:World} (a b l:Int) (h:b<a):Calls prog 246 #[.int .i64 a,.int .i64 b,.int .i64 l] w fun e w'=>e=gQC 5 l∧w' = w:=by
 have hg:=hide (fun w=>fQE (w:=w) 5 l);go_enter func246,ntmps246
 go_wp2_with fail
 refine (hg.out _).mono ?_;rintro e w1 ⟨rfl,rfl⟩;exact ⟨rfl,rfl,rfl⟩
def strName:ByteArray:=⟨#[78,65,77,69]⟩
def uQF (s:ByteArray):ByteArray:=if (s.toList == [100,111,109])=true∨(s.toList == [114,101,108])=true then s else strName
theorem cutName_bad {w:World} (s:ByteArray) (hs:s.size≤10000000) (l:Int) (h:6<hQB aQD s):Calls prog 243 #[.string s,.int .i64 l] w fun e w'=>e=gQC 5 l∧w' = w:=by
 have h1:=hide (fun w=>span_isWord (w:=w) s hs);have h2:=hide (fun w=>cQJ (w:=w) (hQB aQD s) 6 l (by omega));go_enter func243,ntmps243
 go_wp2_with fail
 refine (h1.out _).mono ?_;rintro e w1 ⟨rfl,rfl⟩;go_wp2_with fail
 refine (h2.out _).mono ?_;rintro e w1 ⟨rfl,rfl⟩;exact ⟨rfl,rfl,rfl⟩
theorem cutName_ok {w:World} (s:ByteArray) (hs:s.size≤10000000) (l:Int) (h:hQB aQD s≤6):Calls prog 243 #[.string s,.int .i64 l] w fun e w'=>e=.returned (.tuple #[.string (uQF (s.extract 0 (hQB aQD s))),.int .i64 (hQB aQD s)])∧w' = w:=by
 have h1:=hide (fun w=>span_isWord (w:=w) s hs);have h2:=hide (fun w=>xQJ (w:=w) (hQB aQD s) 6 l (by omega));have hle:=xQE aQD s;generalize hQB aQD s=n at h1 h2 hle h ⊢;have hnI:(n:Int)≤s.size:=by omega
 cases hd:((s.extract 0 n).toList == [100,111,109]) with
 | true=>
  have hk:uQF (s.extract 0 n)=s.extract 0 n:=by unfold uQF;rw [if_pos (.inl hd)]
  rw [hk];go_enter func243,ntmps243
  go_wp2_with fail
  refine (h1.out _).mono ?_;rintro e w1 ⟨rfl,rfl⟩;go_wp2_with fail
  refine (h2.out _).mono ?_;rintro e w1 ⟨rfl,rfl⟩;go_wp2_with fail
  go_ret2
  exact ⟨rfl,rfl⟩
 | false=>
  cases hr:((s.extract 0 n).toList == [114,101,108]) with
  | true=>
   have hk:uQF (s.extract 0 n)=s.extract 0 n:=by unfold uQF;rw [if_pos (.inr hr)]
   rw [hk];go_enter func243,ntmps243
   go_wp2_with fail
   refine (h1.out _).mono ?_;rintro e w1 ⟨rfl,rfl⟩;go_wp2_with fail
   refine (h2.out _).mono ?_;rintro e w1 ⟨rfl,rfl⟩;go_wp2_with fail
   go_ret2
   exact ⟨rfl,rfl⟩
  | false=>
   have hk:uQF (s.extract 0 n)=strName:=by unfold uQF;rw [if_neg (by simp [hd,hr])]
   rw [hk];go_enter func243,ntmps243
   go_wp2_with fail
   refine (h1.out _).mono ?_;rintro e w1 ⟨rfl,rfl⟩;go_wp2_with fail
   refine (h2.out _).mono ?_;rintro e w1 ⟨rfl,rfl⟩;go_wp2_with fail
   go_ret2
   exact ⟨rfl,rfl⟩
end
section
open Go.RowKit
def lays137_ren:Go.Shelf.Ren:=⟨fun | 137=>247 | 217=>287 | 266=>297 | x=>x,fun x=>x,fun x=>x⟩
theorem lays137:Go.Proofs.Lays.n137 prog lays137_ren:={
 mixed:=by kernel_rfl
 f137:=func247.trans (congrArg some (by kernel_rfl))
 f217:=func287.trans (congrArg some (by kernel_rfl))
 f266:=func297.trans (congrArg some (by kernel_rfl))
 t3:=underlying3
 a3:=Tryz.isAgg3
 z3:=Tryz.sizeOf3
 v3:=Tryz.zeroValue3
 t5:=underlying5
 a5:=Tryz.isAgg5
 z5:=Tryz.sizeOf5
 v5:=Tryz.zeroValue5
 t9:=underlying9
 a9:=Tryz.isAgg9
 z9:=Tryz.sizeOf9
 v9:=Tryz.zeroValue9 }
theorem indexByte_calls {w:World} (s:ByteArray) (c:Int):Calls prog 247 #[.string s,.int .u8 c] w fun e w'=>e=.returned (.int .i64 (Lib.indexByte s.data.toList c.toNat.toUInt8))∧w' = w:=Go.Proofs.Any.strings_IndexByte lays137 s c w
def isMark (c:Int):Bool:=c == 40 || c == 41 || c == 44 || c == 59 || c == 46 || c == 33
theorem marks_iff (c:Int) (h0:0≤c) (h1:c<256):(0≤Lib.indexByte [40,41,44,59,46,33] c.toNat.toUInt8)↔isMark c=true:=by
 obtain ⟨n,rfl⟩:∃ n:Nat,c=n:=⟨c.toNat,by omega⟩;have hn:n<256:=by omega
 rw [Int.toNat_natCast];have key:∀ k:Fin 256,(0≤Lib.indexByte [40,41,44,59,46,33] k.val.toUInt8)↔isMark (k.val:Int)=true:=by decide +kernel
 exact key ⟨n,hn⟩
def bQF (s:ByteArray):Bool:=decide (2≤s.size) && ((s.extract 0 2).toList == [58,45])
theorem arrow288 {w:World} (s:ByteArray):Calls prog 288 #[.string s,.string ⟨#[58,45]⟩] w fun e w'=>e=.returned (.bool (bQF s))∧w' = w:=by
 by_cases h2:2≤s.size
 ·have hI:(2:Int)≤s.size:=by omega
  have hk:bQF s=((s.extract 0 2).toList == [58,45]):=by unfold bQF;simp [h2]
  rw [hk];go_enter func288,ntmps288
  go_wp2_with fail
  go_ret
  exact ⟨rfl,rfl⟩
 ·have hI:¬ (2:Int)≤s.size:=by omega
  have hk:bQF s=false:=by unfold bQF;simp [h2]
  rw [hk];go_enter func288,ntmps288
  go_wp2_with fail
  go_ret
  exact ⟨rfl,rfl⟩
theorem arrow_calls {w:World} (s:ByteArray):Calls prog 248 #[.string s,.string ⟨#[58,45]⟩] w fun e w'=>e=.returned (.bool (bQF s))∧w' = w:=by
 have hp:=hide (fun w=>arrow288 (w:=w) s);go_enter func248,ntmps248
 go_wp2_with fail
 refine (hp.out _).mono ?_;rintro e w1 ⟨rfl,rfl⟩;go_wp2_with fail
 go_ret
 exact ⟨rfl,rfl⟩
end
section
open Go.RowKit
def strVar:ByteArray:=⟨#[86,65,82]⟩
def strInt:ByteArray:=⟨#[73,78,84]⟩
def strArrow:ByteArray:=⟨#[58,45]⟩
def cutOf (s:ByteArray):Option (ByteArray×Nat):=
 if bQH (ltr s 0) then (if hQB aQD s≤6 then some (uQF (s.extract 0 (hQB aQD s)),hQB aQD s) else none)
 else if cQH (ltr s 0) then some (strVar,1+hQB hQC (s.extract 1 (min 2 s.size)))
 else if hQC (ltr s 0) then (if hQB hQC s≤2 then some (strInt,hQB hQC s) else none)
 else if isMark (ltr s 0) then some (s.extract 0 1,1)
 else if bQF s then some (strArrow,2) else none
def CutTo (r:Option (ByteArray×Nat)) (l:Int) (e:Ending):Prop:=match r with
 | some (k,n)=>e=.returned (.tuple #[.string k,.int .i64 n])
 | none=>e=gQC 5 l
theorem cut_calls {w:World} (s:ByteArray) (h0:0<s.size) (hs:s.size≤10000000) (l:Int):Calls prog 197 #[.string s,.int .i64 l] w fun e w'=>CutTo (cutOf s) l e∧w' = w:=by
 have hl:=ltr_at h0;have h0I:(0:Int)<s.size:=by omega
 have hL:=hide (fun (w:World) (x:Int)=>isSmall_calls (w:=w) x);have hG:=hide (fun (w:World) (x:Int)=>isGreat_calls (w:=w) x);have hD:=hide (fun (w:World) (x:Int)=>tQI (w:=w) x);unfold cutOf;cases h1:bQH (ltr s 0) with
 | true=>
  rw [if_pos rfl];by_cases h6:hQB aQD s≤6
  ·rw [if_pos h6];have hc:=hide (fun w=>cutName_ok (w:=w) s hs l h6);generalize hQB aQD s=n at hc ⊢;go_enter func197,ntmps197
   go_wp2_with fail
   refine (hL.out _ _).mono ?_;rintro e w1 ⟨rfl,rfl⟩;rw [h1];go_wp2_with fail
   refine (hc.out _).mono ?_;rintro e w1 ⟨rfl,rfl⟩;go_wp2_with fail
   go_ret2
   exact ⟨rfl,rfl⟩
  ·rw [if_neg h6];have hc:=hide (fun w=>cutName_bad (w:=w) s hs l (by omega));go_enter func197,ntmps197
   go_wp2_with fail
   refine (hL.out _ _).mono ?_;rintro e w1 ⟨rfl,rfl⟩;rw [h1];go_wp2_with fail
   refine (hc.out _).mono ?_;rintro e w1 ⟨rfl,rfl⟩;exact ⟨rfl,rfl,rfl⟩
 | false=>
  rw [if_neg (by simp)];cases h2:cQH (ltr s 0) with
  | true=>
   rw [if_pos rfl];have hx:=hide (fun w=>span_isDig (w:=w) (s.extract 1 (min 2 s.size)) (by rw [ByteArray.size_extract];omega));have hnl:=xQE hQC (s.extract 1 (min 2 s.size));rw [ByteArray.size_extract] at hnl;generalize hQB hQC (s.extract 1 (min 2 s.size))=n at hx hnl ⊢;have hm:min 2 s.size≤s.size:=Nat.min_le_right _ _;have hm1:1≤min 2 s.size:=(by omega);have hmI:min (2:Int) (s.size:Int)=((min 2 s.size:Nat):Int):=(by omega);go_enter func197,ntmps197
   go_wp2_with fail
   refine (hL.out _ _).mono ?_;rintro e w1 ⟨rfl,rfl⟩;rw [h1];go_wp2_with fail
   refine (hG.out _ _).mono ?_;rintro e w1 ⟨rfl,rfl⟩;rw [h2];go_wp2_with fail
   refine (hx.out _).mono ?_;rintro e w1 ⟨rfl,rfl⟩;go_wp2_with fail
   go_ret2
   exact ⟨rfl,rfl⟩
  | false=>
   rw [if_neg (by simp)];cases h3:hQC (ltr s 0) with
   | true=>
    rw [if_pos rfl];have hx:=hide (fun w=>span_isDig (w:=w) s hs);by_cases h6:hQB hQC s≤2
    ·rw [if_pos h6];have hf:=hide (fun w=>xQJ (w:=w) (hQB hQC s) 2 l (by omega));generalize hQB hQC s=n at hx hf ⊢;go_enter func197,ntmps197
     go_wp2_with fail
     refine (hL.out _ _).mono ?_;rintro e w1 ⟨rfl,rfl⟩;rw [h1];go_wp2_with fail
     refine (hG.out _ _).mono ?_;rintro e w1 ⟨rfl,rfl⟩;rw [h2];go_wp2_with fail
     refine (hD.out _ _).mono ?_;rintro e w1 ⟨rfl,rfl⟩;rw [h3];go_wp2_with fail
     refine (hx.out _).mono ?_;rintro e w1 ⟨rfl,rfl⟩;go_wp2_with fail
     refine (hf.out _).mono ?_;rintro e w1 ⟨rfl,rfl⟩;go_wp2_with fail
     go_ret2
     exact ⟨rfl,rfl⟩
    ·rw [if_neg h6];have hf:=hide (fun w=>cQJ (w:=w) (hQB hQC s) 2 l (by omega));go_enter func197,ntmps197
     go_wp2_with fail
     refine (hL.out _ _).mono ?_;rintro e w1 ⟨rfl,rfl⟩;rw [h1];go_wp2_with fail
     refine (hG.out _ _).mono ?_;rintro e w1 ⟨rfl,rfl⟩;rw [h2];go_wp2_with fail
     refine (hD.out _ _).mono ?_;rintro e w1 ⟨rfl,rfl⟩;rw [h3];go_wp2_with fail
     refine (hx.out _).mono ?_;rintro e w1 ⟨rfl,rfl⟩;go_wp2_with fail
     refine (hf.out _).mono ?_;rintro e w1 ⟨rfl,rfl⟩;exact ⟨rfl,rfl,rfl⟩
   | false=>
    rw [if_neg (by simp)];have hi:=hide (fun w=>indexByte_calls (w:=w) ⟨#[40,41,44,59,46,33]⟩ (ltr s 0));have hiff:=marks_iff (ltr s 0) (by rw [←hl];omega) (by rw [←hl];have:=(s[0]'h0).toNat_lt;omega);generalize hr:Lib.indexByte (⟨#[40,41,44,59,46,33]⟩:ByteArray).data.toList (ltr s 0).toNat.toUInt8=r at hi;have hiff':0≤r↔isMark (ltr s 0)=true:=by rw [←hr];exact hiff
    clear hiff hr;cases h4:isMark (ltr s 0) with
    | true=>
     rw [if_pos rfl];have hr0:0≤r:=hiff'.2 h4;clear hiff';go_enter func197,ntmps197
     go_wp2_with fail
     refine (hL.out _ _).mono ?_;rintro e w1 ⟨rfl,rfl⟩;rw [h1];go_wp2_with fail
     refine (hG.out _ _).mono ?_;rintro e w1 ⟨rfl,rfl⟩;rw [h2];go_wp2_with fail
     refine (hD.out _ _).mono ?_;rintro e w1 ⟨rfl,rfl⟩;rw [h3];go_wp2_with fail
     refine (hi.out _).mono ?_;rintro e w1 ⟨rfl,rfl⟩;go_wp2_with fail
     go_ret2
     exact ⟨rfl,rfl⟩
    | false=>
     rw [if_neg (by simp)];have hr0:¬ 0≤r:=fun h=>by rw [hiff'.1 h] at h4;cases h4
     clear hiff';have ha:=hide (fun w=>arrow_calls (w:=w) s);have hg:=hide (fun w=>fQE (w:=w) 5 l);cases h5:bQF s with
     | true=>
      rw [if_pos rfl];rw [h5] at ha;go_enter func197,ntmps197
      go_wp2_with fail
      refine (hL.out _ _).mono ?_;rintro e w1 ⟨rfl,rfl⟩;rw [h1];go_wp2_with fail
      refine (hG.out _ _).mono ?_;rintro e w1 ⟨rfl,rfl⟩;rw [h2];go_wp2_with fail
      refine (hD.out _ _).mono ?_;rintro e w1 ⟨rfl,rfl⟩;rw [h3];go_wp2_with fail
      refine (hi.out _).mono ?_;rintro e w1 ⟨rfl,rfl⟩;go_wp2_with fail
      refine (ha.out _).mono ?_;rintro e w1 ⟨rfl,rfl⟩;go_wp2_with fail
      go_ret2
      exact ⟨rfl,rfl⟩
     | false=>
      rw [if_neg (by simp)];rw [h5] at ha;go_enter func197,ntmps197
      go_wp2_with fail
      refine (hL.out _ _).mono ?_;rintro e w1 ⟨rfl,rfl⟩;rw [h1];go_wp2_with fail
      refine (hG.out _ _).mono ?_;rintro e w1 ⟨rfl,rfl⟩;rw [h2];go_wp2_with fail
      refine (hD.out _ _).mono ?_;rintro e w1 ⟨rfl,rfl⟩;rw [h3];go_wp2_with fail
      refine (hi.out _).mono ?_;rintro e w1 ⟨rfl,rfl⟩;go_wp2_with fail
      refine (ha.out _).mono ?_;rintro e w1 ⟨rfl,rfl⟩;go_wp2_with fail
      refine (hg.out _).mono ?_;rintro e w1 ⟨rfl,rfl⟩;exact ⟨rfl,rfl,rfl⟩
end
section
open Go.RowKit
structure Tk where
 kind:ByteArray
 text:ByteArray
 line:Nat
def jQG:Nat→ByteArray→Nat→(List Tk×Nat) ⊕ Nat
 | 0,_,l=>.inl ([],l)
 | k+1,s,l=>
  if s.size=0 then .inl ([],l)
  else if ltr s 0=10 then jQG k (s.extract 1 s.size) (l+1)
  else if ltr s 0=32∨ltr s 0=9 then jQG k (s.extract 1 s.size) l
  else if ltr s 0=37 then jQG k (s.extract (hQB bQJ s) s.size) l
  else match cutOf s with
   | none=>.inr l
   | some (kd,n)=>match jQG k (s.extract n s.size) l with
    | .inl (ts,m)=>.inl (⟨kd,s.extract 0 n,l⟩ :: ts,m)
    | .inr m=>.inr m
theorem qQG {p:Int→Bool} {s:ByteArray} (h0:0<s.size) (h:p (ltr s 0)=true):1≤hQB p s:=by
 unfold hQB;obtain ⟨k,hk⟩:∃ k,s.size=k+1:=⟨s.size - 1,by omega⟩;rw [hk,zQB,if_pos h];exact (spanFrom_le p s 1 k).1
theorem arrow_size {s:ByteArray} (h:bQF s=true):2≤s.size:=by
 unfold bQF at h;simp at h;exact h.1
theorem cutOf_range {s:ByteArray} (h0:0<s.size) {k:ByteArray} {n:Nat} (h:cutOf s=some (k,n)):1≤n∧n≤s.size:=by
 unfold cutOf at h;split at h
 ·rename_i hl;split at h
  ·cases h;exact ⟨qQG h0 (by unfold aQD;rw [hl];rfl),xQE _ _⟩
  ·cases h
 ·split at h
  ·cases h;have:=xQE hQC (s.extract 1 (min 2 s.size));rw [ByteArray.size_extract] at this;omega
  ·split at h
   ·rename_i hd;split at h
    ·cases h;exact ⟨qQG h0 hd,xQE _ _⟩
    ·cases h
   ·split at h
    ·cases h;omega
    ·split at h
     ·rename_i ha;cases h;have:=arrow_size ha;omega
     ·cases h
end
section
open Go.RowKit
theorem info129:(prog.info? 129).map (fun i=>(i.zero,i.size,i.bytes))=some (some (.agg #[.string ⟨#[]⟩,.string ⟨#[]⟩,.int .i64 0]),3,40):=by kernel_rfl
def vQG (ts:List Tk):List Value:=ts.flatMap fun t=>[.string t.kind,.string t.text,.int .i64 t.line]
theorem tcells_append (a b:List Tk):vQG (a++b)=vQG a++vQG b:=by simp [vQG]
def ahead (ts:List Tk):(List Tk×Nat) ⊕ Nat→(List Tk×Nat) ⊕ Nat
 | .inl (us,m)=>.inl (ts++us,m)
 | .inr m=>.inr m
theorem tk_cell {W:World} {a b c:Value}:∀ (j:Nat) (x:Value),[a,b,c][j]?=some x→(W.alloc (.cells #[a,b,c] 129)).cell? ((⟨W.heap.size,0,none⟩:Addr).add j)=some x:=by
 intro j x hx;rw [Addr.add_lit,Nat.zero_add,(cQA.new W #[a,b,c] 129).cell];match j with
 | 0=>simpa using hx
 | 1=>simpa using hx
 | 2=>simpa using hx
 | j+3=>simp at hx
def strEnd:ByteArray:=⟨#[101,110,100]⟩
def ScanTo (w:World) (r:(List Tk×Nat) ⊕ Nat) (e:Ending) (w':World):Prop:=match r with
 | .inl (ts,m)=>∃ v,e=.returned v∧w'.ownsRow w.heap.size 129 3 v (ts.length+1) (vQG (ts++[⟨strEnd,⟨#[]⟩,m⟩]))
 | .inr l=>e=gQC 5 l
theorem scan_calls {w:World} (s:ByteArray) (hs:s.size≤1000000):Calls prog 133 #[.string s] w fun e w'=>ScanTo w (jQG s.size s 1) e w'∧aQA [] w w':=by
 obtain ⟨i0,hi0,hz0,hz1,hz2⟩:=info_parts info129;generalize hR:jQG s.size s 1=R;go_enter func133,ntmps133
 go_wp2_with fail
 go_loopw [0,3,4] (fun x y z wr=>∃ (k l:Nat) (s':ByteArray) (ts:List Tk),x=.string s'∧z=.int .i64 l∧s'.size≤k∧s'.size≤s.size∧ts.length+s'.size≤s.size∧l+s'.size≤s.size+1∧wr.ownsRow w.heap.size 129 3 y ts.length (vQG ts)∧aQA [] w wr∧ahead ts (jQG k s' l)=R) (fun x _ _ _=>match x with | .string t=>t.size | _=>0)
 case atStart=>exact ⟨s.size,1,s,[],rfl,rfl,Nat.le_refl _,Nat.le_refl _,by simp,by omega,World.ownsRow_nil ..,aQA.refl _ _,by rw [←hR];cases jQG s.size s 1 <;> rfl⟩
 case round=>
  obtain ⟨k,l,s',ts,rfl,rfl,hk,hs',htl,hll,own,kr,hres⟩:=hrel;by_cases h0:0<s'.size
  ·obtain ⟨k,rfl⟩:∃ k',k=k' + 1:=⟨k - 1,by omega⟩;rw [jQG,if_neg (by omega)] at hres;have h0I:(0:Int)<s'.size:=(by omega);have h1I:(1:Int)≤s'.size:=(by omega);have hl:=ltr_at h0;clear hR;by_cases c10:ltr s' 0=10
   ·rw [if_pos c10] at hres;have e10:(ltr s' 0 == 10)=true:=by rw [c10];rfl
    have Hres:=hide hres;have hsz:(s'.extract 1 s'.size).size=s'.size - 1:=by rw [ByteArray.size_extract];omega
    clear hres c10;go_wp2_with fail
    go_roundw
    ·exact ⟨k,l+1,s'.extract 1 s'.size,ts,rfl,by simp,by omega,by omega,by omega,by omega,own,kr,Hres.out⟩
    ·show (s'.extract 1 s'.size).size<s'.size;omega
   ·rw [if_neg c10] at hres;have e10:(ltr s' 0 == 10)=false:=by rw [beq_eq_false_iff_ne];exact c10
    clear c10;by_cases c32:ltr s' 0=32
    ·rw [if_pos (.inl c32)] at hres;have e32:(ltr s' 0 == 32)=true:=by rw [c32];rfl
     have Hres:=hide hres;have hsz:(s'.extract 1 s'.size).size=s'.size - 1:=by rw [ByteArray.size_extract];omega
     clear hres c32;go_wp2_with fail
     go_roundw
     ·exact ⟨k,l,s'.extract 1 s'.size,ts,rfl,rfl,by omega,by omega,by omega,by omega,own,kr,Hres.out⟩
     ·show (s'.extract 1 s'.size).size<s'.size;omega
    ·have e32:(ltr s' 0 == 32)=false:=by rw [beq_eq_false_iff_ne];exact c32
     by_cases c9:ltr s' 0=9
     ·rw [if_pos (.inr c9)] at hres;have e9:(ltr s' 0 == 9)=true:=by rw [c9];rfl
      have Hres:=hide hres;have hsz:(s'.extract 1 s'.size).size=s'.size - 1:=by rw [ByteArray.size_extract];omega
      clear hres c32 c9;go_wp2_with fail
      go_roundw
      ·exact ⟨k,l,s'.extract 1 s'.size,ts,rfl,rfl,by omega,by omega,by omega,by omega,own,kr,Hres.out⟩
      ·show (s'.extract 1 s'.size).size<s'.size;omega
     ·rw [if_neg (fun h=>h.elim c32 c9)] at hres;have e9:(ltr s' 0 == 9)=false:=by rw [beq_eq_false_iff_ne];exact c9
      clear c32 c9;by_cases c37:ltr s' 0=37
      ·rw [if_pos c37] at hres;have e37:(ltr s' 0 == 37)=true:=by rw [c37];rfl
       have hp1:1≤hQB bQJ s':=qQG h0 (by rw [c37];rfl);have hp2:=xQE bQJ s';have hx:=hide (fun w=>span_notEol (w:=w) s' (by omega));generalize hQB bQJ s' = n at hres hp1 hp2 hx;have Hres:=hide hres;have hsz:(s'.extract n s'.size).size=s'.size - n:=by rw [ByteArray.size_extract];omega
       have hnI:(n:Int)≤s'.size:=(by omega);clear hres c37;go_wp2_with fail
       refine (hx.out _).mono ?_;rintro e w1 ⟨rfl,rfl⟩;go_wp2_with fail
       go_roundw
       ·exact ⟨k,l,s'.extract n s'.size,ts,rfl,rfl,by omega,by omega,by omega,by omega,own,kr,Hres.out⟩
       ·show (s'.extract n s'.size).size<s'.size;omega
      ·rw [if_neg c37] at hres;have e37:(ltr s' 0 == 37)=false:=by rw [beq_eq_false_iff_ne];exact c37
       clear c37;have hcut:=hide (fun w=>cut_calls (w:=w) s' h0 (by omega) l);cases hc:cutOf s' with
       | none=>
        rw [hc] at hres hcut;have Hres:=hide hres;clear hres;go_wp2_with fail
        refine (hcut.out _).mono ?_;rintro e w1 ⟨hce,rfl⟩;cases hce;refine ⟨rfl,?_,kr⟩;rw [←Hres.out];rfl
       | some r=>
        obtain ⟨kd,n⟩:=r;obtain ⟨hn1,hn2⟩:=cutOf_range h0 hc;rw [hc] at hres hcut;have hah:ahead (ts++[⟨kd,s'.extract 0 n,l⟩]) (jQG k (s'.extract n s'.size) l)=R:=by
         rw [←hres];show _=ahead ts (match jQG k (s'.extract n s'.size) l with
          | .inl (ts,m)=>.inl (⟨kd,s'.extract 0 n,l⟩ :: ts,m)
          | .inr m=>.inr m)
         cases jQG k (s'.extract n s'.size) l with
         | inl q=>simp [ahead]
         | inr m=>rfl
        have Hah:=hide hah;have hsz:(s'.extract n s'.size).size=s'.size - n:=by rw [ByteArray.size_extract];omega
        have hnI:(n:Int)≤s'.size:=(by omega);clear hres hah hc;obtain ⟨ay,cy,hy⟩:=fQA own;subst hy;have kB:=aQA.alloc [] wr (.cells #[.string kd,.string (s'.extract 0 n),.int .i64 l] 129);have ownB:=bQA own kB (by simp);have hone:=tk_cell (W:=wr) (a:=.string kd) (b:=.string (s'.extract 0 n)) (c:=.int .i64 l);have hszB:w.heap.size≤(wr.alloc (.cells #[.string kd,.string (s'.extract 0 n),.int .i64 l] 129)).heap.size:=by rw [dQA];have:=kr.size;omega
        go_wp2_with fail
        refine (hcut.out _).mono ?_;rintro e w1 ⟨hce,rfl⟩;cases hce;go_wp2_with (at_builtin;refine wpList_append_own_at _ rfl _ _ 125 rfl w.heap.size 129 i0 (.agg #[.string ⟨#[]⟩,.string ⟨#[]⟩,.int .i64 0]) 3 40 underlying125 hi0 hz0 hz1 hz2 rfl (by decide) _ ts.length (vQG ts) rfl ownB ⟨w1.heap.size,0,none⟩ 1 1 [.string kd,.string (s'.extract 0 n),.int .i64 l] rfl (by simp) hone (by simp [Value.oneCell']) (by unfold maxLen;omega) (by omega) hszB ?_)
        intro v' W2 own2 grow2 nil2 at2;have k2:=grownBy_keeps' grow2 (Value.slice ay ts.length cy).ownBlock.toList (fun r e=>.inl (by simp [e]));have kf:aQA [] w W2:=(kr.trans kB).trans_new k2 fun j hj=>.inr (hQA own j (by simpa using hj)).1;go_wp2_with fail
        go_roundw
        ·exact ⟨k,l,s'.extract n s'.size,ts++[⟨kd,s'.extract 0 n,l⟩],rfl,rfl,by omega,by omega,by rw [List.length_append,List.length_singleton];omega,by omega,by rw [tcells_append,List.length_append];exact own2,kf,Hah.out⟩
        ·show (s'.extract n s'.size).size<s'.size;omega
  ·have hz:s'.size=0:=(by omega);have hI:¬ (0:Int)<s'.size:=(by omega);have hsc:jQG k s' l=.inl ([],l):=by cases k <;> simp [jQG,hz]
   rw [hsc] at hres;simp only [ahead,List.append_nil] at hres;have Hres:=hide hres;clear hres hsc hR;obtain ⟨ay,cy,hy⟩:=fQA own;subst hy;have kB:=aQA.alloc [] wr (.cells #[.string ⟨#[101,110,100]⟩,.string ⟨#[]⟩,.int .i64 l] 129);have ownB:=bQA own kB (by simp);have hone:=tk_cell (W:=wr) (a:=.string ⟨#[101,110,100]⟩) (b:=.string ⟨#[]⟩) (c:=.int .i64 l);have hszB:w.heap.size≤(wr.alloc (.cells #[.string ⟨#[101,110,100]⟩,.string ⟨#[]⟩,.int .i64 l] 129)).heap.size:=by rw [dQA];have:=kr.size;omega
   go_wp2_with (at_builtin;refine wpList_append_own_at _ rfl _ _ 125 rfl w.heap.size 129 i0 (.agg #[.string ⟨#[]⟩,.string ⟨#[]⟩,.int .i64 0]) 3 40 underlying125 hi0 hz0 hz1 hz2 rfl (by decide) _ ts.length (vQG ts) rfl ownB ⟨wr.heap.size,0,none⟩ 1 1 [.string ⟨#[101,110,100]⟩,.string ⟨#[]⟩,.int .i64 l] rfl (by simp) hone (by simp [Value.oneCell']) (by unfold maxLen;omega) (by omega) hszB ?_)
   intro v' W2 own2 grow2 nil2 at2;have k2:=grownBy_keeps' grow2 (Value.slice ay ts.length cy).ownBlock.toList (fun r e=>.inl (by simp [e]));have kf:aQA [] w W2:=(kr.trans kB).trans_new k2 fun j hj=>.inr (hQA own j (by simpa using hj)).1;go_wp2_with fail
   go_ret
   rw [←Hres.out];exact ⟨⟨_,rfl,by rw [tcells_append];exact own2⟩,kf⟩
end
end Go.Proofs.YtgjomknpjigkhaaGreatDoor
