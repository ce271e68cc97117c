import Derived.Test.YtgjomknpjigkhaaGreatDoorZ15
namespace Go.Proofs.YtgjomknpjigkhaaGreatDoor
set_option maxRecDepth 100000
set_option maxHeartbeats 4000000
section
inductive Nl (E:Nat→Nat→Prop) (k:Nat):Nat→Nat→Nat→Prop
 | one {x y:Nat}:E x y→Nl E k 1 x y
 | cons {n x z y:Nat}:E x z→z<k→Nl E k n z y→Nl E k (n+1) x y
theorem Nl.pos {E:Nat→Nat→Prop} {k n x y:Nat} (h:Nl E k n x y):0<n:=by
 cases h <;> omega
theorem Nl.trans {E:Nat→Nat→Prop} {k n m x z y:Nat} (h:Nl E k n x z) (hz:z<k) (h2:Nl E k m z y):Nl E k (n+m) x y:=by
 induction h with
 | one h=>rw [Nat.add_comm];exact .cons h hz h2
 | cons h1 h3 _ ih=>rw [Nat.add_right_comm];exact .cons h1 h3 (ih hz h2)
theorem Nl.last {E:Nat→Nat→Prop} {k n x y:Nat} (h:Nl E k (n+1) x y) (hn:0<n):∃ z,z<k∧Nl E k n x z∧E z y:=by
 induction n generalizing x with
 | zero=>omega
 | succ n ih=>
  cases h with
  | @cons m _ z _ h1 h2 h3=>
   cases n with
   | zero=>
    cases h3 with
    | one h4=>exact ⟨z,h2,.one h1,h4⟩
    | cons _ _ h5=>exact absurd h5.pos (by omega)
   | succ n=>
    obtain ⟨u,hu,h4,h5⟩:=ih h3 (by omega);exact ⟨u,hu,.cons h1 h2 h4,h5⟩
theorem Nl.one_iff {E:Nat→Nat→Prop} {k x y:Nat}:Nl E k 1 x y↔E x y:=by
 constructor
 ·intro h;cases h with
  | one h=>exact h
  | cons _ _ h=>exact absurd h.pos (by omega)
 ·exact .one
def derives (cs:List Ac) (rk:Nat→List Nat→Option Nat) (i:Nat) (l:List Nat):Prop:=∃ c∈cs,c.head.rel=i∧brings c.head.terms (fun ν=>∀ a∈c.lits,FY rk a ν) l
def fG (cs:List Ac):Prop:=∀ c∈cs,∀ a∈c.lits,a.2=true→∀ d∈cs,d.head.rel≠a.1.rel
def fE (cs:List Ac) (n:Nat):Prop:=∀ c∈cs,c.head.rel<n∧∀ a∈c.lits,a.1.rel<n
open Classical in
noncomputable def nv (cs:List Ac) (n:Nat) (rk0:Nat→List Nat→Option Nat):Nat→Nat→List Nat→Option Nat
 | 0=>rk0
 | t+1=>fun i l=>if i<n∧nv cs n rk0 t i l=none∧derives cs (nv cs n rk0 t) i l then some (t+1) else nv cs n rk0 t i l
section
variable {cs:List Ac} {n:Nat} {rk0:Nat→List Nat→Option Nat}
theorem JD {t i:Nat} {l:List Nat} (h:nv cs n rk0 t i l≠none):nv cs n rk0 (t+1) i l=nv cs n rk0 t i l:=by
 simp only [nv];rw [if_neg (fun q=>h q.2.1)]
theorem LR {t i:Nat} {l:List Nat} (hi:i<n) (h:nv cs n rk0 t i l=none) (hd:derives cs (nv cs n rk0 t) i l):nv cs n rk0 (t+1) i l=some (t+1):=by
 simp only [nv];rw [if_pos ⟨hi,h,hd⟩]
theorem Qd {t i:Nat} {l:List Nat} (hd:¬ derives cs (nv cs n rk0 t) i l):nv cs n rk0 (t+1) i l=nv cs n rk0 t i l:=by
 simp only [nv];rw [if_neg (fun q=>hd q.2.2)]
theorem iF {t i:Nat} {l:List Nat} (hi:i<n):(nv cs n rk0 (t+1) i l).isSome=true↔(nv cs n rk0 t i l).isSome=true∨(derives cs (nv cs n rk0 t) i l∧nv cs n rk0 t i l=none):=by
 by_cases h:nv cs n rk0 t i l=none
 ·by_cases hd:derives cs (nv cs n rk0 t) i l
  ·rw [LR hi h hd];simp [h,hd]
  ·rw [Qd hd];simp [h,hd]
 ·rw [JD h];simp [h]
theorem MJ {i:Nat} (h:∀ d∈cs,d.head.rel≠i) (rk:Nat→List Nat→Option Nat) (l:List Nat):¬ derives cs rk i l:=fun ⟨d,hd,e,_⟩=>h d hd e
theorem Ql (hneg:fG cs) (hrel:fE cs n) {c:Ac} (hc:c∈cs) {a:BW×Bool} (ha:a∈c.lits) (t:Nat) (ν:List Nat):FY (nv cs n rk0 (t+1)) a ν↔FY (nv cs n rk0 t) a ν∨(derives cs (nv cs n rk0 t) a.1.rel (a.1.terms.map (Ia ν))∧nv cs n rk0 t a.1.rel (a.1.terms.map (Ia ν))=none):=by
 unfold FY;cases h2:a.2 with
 | true=>
  have hd:=MJ (hneg c hc a ha h2) (nv cs n rk0 t) (a.1.terms.map (Ia ν));simp only [if_true];rw [Qd hd];simp [hd]
 | false=>
  rw [if_neg (by simp),if_neg (by simp)];exact iF ((hrel c hc).2 a ha)
theorem aQ (hneg:fG cs) (hrel:fE cs n):∀ t,(Gj cs n rk0 (C3 cs rk0) t).rk=nv cs n rk0 t∧(∀ (p:Nat) (c:Ac),cs[p]?=some c→((Gj cs n rk0 (C3 cs rk0) t).hs p).length=c.lits.length∧∀ (k:Nat) (a:BW×Bool),c.lits[k]?=some a→∃ H,((Gj cs n rk0 (C3 cs rk0) t).hs p)[k]?=some H∧∀ ν,H ν↔FY (nv cs n rk0 t) a ν)∧∀ (i:Nat) (l:List Nat),i<n→((Gj cs n rk0 (C3 cs rk0) t).x i l↔derives cs (nv cs n rk0 t) i l∧nv cs n rk0 t i l=none)
 | 0=>by
  have hh:∀ (p:Nat) (c:Ac),cs[p]?=some c→C3 cs rk0 p=c.lits.map (FY rk0):=fun p c hc=>by unfold C3;rw [hc]
  refine ⟨rfl,fun p c hc=>⟨?_,fun k a ha=>⟨FY rk0 a,?_,fun ν=>Iff.rfl⟩⟩,fun i l hi=>?_⟩
  ·show (C3 cs rk0 p).length=_;rw [hh p c hc];simp
  ·show (C3 cs rk0 p)[k]?=_;rw [hh p c hc,AW,ha];rfl
  ·show Jl (Si cs (C3 cs rk0)) rk0 n i l↔derives cs rk0 i l∧rk0 i l=none;unfold Jl;have e1:Si cs (C3 cs rk0) i l↔derives cs rk0 i l:=by
    constructor
    ·rintro ⟨p,c,hc,hr,ν,h1,h2,h3⟩;refine ⟨c,AE hc,hr,ν,h1,fun a ha=>?_,h3⟩;obtain ⟨k,hk,rfl⟩:=A0 ha;exact h2 k _ hk (by rw [hh p c hc,AW,AB hk];rfl)
    ·rintro ⟨c,hc,hr,ν,h1,h2,h3⟩;obtain ⟨p,hp,rfl⟩:=A0 hc;have hc':=AB hp;refine ⟨p,_,hc',hr,ν,h1,fun k H hk hH=>?_,h3⟩;rw [hh p _ hc',AW] at hH;obtain ⟨a,ha,rfl⟩:=Cj.1 hH;exact h2 a (AE ha)
   rw [e1];constructor
   ·exact fun q=>⟨q.1,by have:=q.2 hi;cases h:rk0 i l <;> simp_all⟩
   ·exact fun q=>⟨q.1,fun _=>by rw [q.2];simp⟩
 | t+1=>by
  obtain ⟨h1,h2,h3⟩:=aQ hneg hrel t;have er:(Gj cs n rk0 (C3 cs rk0) (t+1)).rk=nv cs n rk0 (t+1):=by
   show EJ (Gj cs n rk0 (C3 cs rk0) t).rk (Gj cs n rk0 (C3 cs rk0) t).x (t+1) n=_;funext i l
   unfold EJ;by_cases hi:i<n
   ·rw [if_pos hi];unfold Fk;by_cases hx:(Gj cs n rk0 (C3 cs rk0) t).x i l
    ·rw [if_pos hx];have:=(h3 i l hi).1 hx;rw [LR hi this.2 this.1]
    ·rw [if_neg hx,h1];by_cases hn:nv cs n rk0 t i l=none
     ·rw [Qd (fun hd=>hx ((h3 i l hi).2 ⟨hd,hn⟩))]
     ·rw [JD hn]
   ·rw [if_neg hi,h1];simp only [nv];rw [if_neg (fun q=>hi q.1)]
  have eh:∀ (p:Nat) (c:Ac),cs[p]?=some c→(Gj cs n rk0 (C3 cs rk0) (t+1)).hs p=Gb ((Gj cs n rk0 (C3 cs rk0) t).hs p) (c.lits.map (FJ (Gj cs n rk0 (C3 cs rk0) t).x)) c.lits.length:=fun p c hc=>by
   show hsC cs _ _ p=_;unfold hsC;rw [hc]
  have hH:∀ (p:Nat) (c:Ac),cs[p]?=some c→∀ (k:Nat) (a:BW×Bool),c.lits[k]?=some a→∃ H,(Gb ((Gj cs n rk0 (C3 cs rk0) t).hs p) (c.lits.map (FJ (Gj cs n rk0 (C3 cs rk0) t).x)) c.lits.length)[k]?=some H∧∀ ν,H ν↔FY (nv cs n rk0 (t+1)) a ν:=fun p c hc k a ha=>by
   obtain ⟨hl,hk⟩:=h2 p c hc;obtain ⟨H,e1,e2⟩:=hk k a ha;have hkl:=(AL.1 ha).1;have hm:=AE hc;have ham:=AE ha;refine ⟨lE ((Gj cs n rk0 (C3 cs rk0) t).hs p) (c.lits.map (FJ (Gj cs n rk0 (C3 cs rk0) t).x)) c.lits.length k,?_,fun ν=>?_⟩
   ·unfold Gb;rw [AW,CS (by rw [hl];exact hkl)];rfl
   ·rw [Ql hneg hrel hm ham,←h3 _ _ ((hrel c hm).2 a ham)];unfold lE;constructor
    ·rintro (⟨G,g1,g2⟩ | ⟨_,C,g1,g2⟩)
     ·rw [e1] at g1;cases g1;exact .inl ((e2 ν).1 g2)
     ·rw [AW,ha] at g1;cases g1;exact .inr g2
    ·rintro (g | g)
     ·exact .inl ⟨H,e1,(e2 ν).2 g⟩
     ·exact .inr ⟨hkl,_,by rw [AW,ha];rfl,g⟩
  have hall:∀ (p:Nat) (c:Ac),cs[p]?=some c→∀ ν,M1 (Gb ((Gj cs n rk0 (C3 cs rk0) t).hs p) (c.lits.map (FJ (Gj cs n rk0 (C3 cs rk0) t).x)) c.lits.length) c.lits.length ν↔∀ a∈c.lits,FY (nv cs n rk0 (t+1)) a ν:=fun p c hc ν=>by
   constructor
   ·intro q a ha;obtain ⟨k,hk,rfl⟩:=A0 ha;obtain ⟨H,e1,e2⟩:=hH p c hc k _ (AB hk);exact (e2 ν).1 (q k H hk e1)
   ·intro q k H hk hHk;obtain ⟨H',e1,e2⟩:=hH p c hc k _ (AB hk);rw [e1] at hHk;cases hHk;exact (e2 ν).2 (q _ (CC hk))
  refine ⟨er,fun p c hc=>⟨?_,fun k a ha=>?_⟩,fun i l hi=>?_⟩
  ·rw [eh p c hc];unfold Gb;simp [(h2 p c hc).1]
  ·rw [eh p c hc];exact hH p c hc k a ha
  ·show Jl (Z2 cs (Gj cs n rk0 (C3 cs rk0) t).hs (Gj cs n rk0 (C3 cs rk0) t).x) (Gj cs n rk0 (C3 cs rk0) (t+1)).rk n i l↔_;rw [er];unfold Jl;constructor
   ·rintro ⟨⟨p,c,k,a,hc,hr,_,ν,g1,g2,g3⟩,hn⟩;refine ⟨⟨c,AE hc,hr,ν,g1,(hall p c hc ν).1 g2.2,g3⟩,?_⟩;have:=hn hi;cases h:nv cs n rk0 (t+1) i l <;> simp_all
   ·rintro ⟨⟨c,hc,hr,ν,g1,g2,g3⟩,hn⟩;refine ⟨?_,fun _=>by rw [hn];simp⟩;obtain ⟨p,hp,rfl⟩:=A0 hc;have hc':=AB hp;by_cases hx:∃ (k:Nat) (a:BW×Bool),(cs[p]).lits[k]?=some a∧FJ (Gj cs n rk0 (C3 cs rk0) t).x a ν
    ·obtain ⟨k,a,ha,hx⟩:=hx;exact ⟨p,_,k,a,hc',hr,ha,ν,g1,⟨hx,(hall p _ hc' ν).2 g2⟩,g3⟩
    ·exfalso
     have hd:derives cs (nv cs n rk0 t) i l:=⟨_,hc,hr,ν,g1,fun a ha=>by
      rcases (Ql hneg hrel hc ha t ν).1 (g2 a ha) with q | q
      ·exact q
      ·obtain ⟨k,hk,e⟩:=A0 ha
       exact absurd ⟨k,a,by rw [AB hk,e],(h3 _ _ ((hrel _ hc).2 a ha)).2 q⟩ hx,g3⟩
     by_cases h0:nv cs n rk0 t i l=none
     ·rw [LR hi h0 hd] at hn;cases hn
     ·rw [JD h0] at hn;exact h0 hn
theorem J1 {T:Nat} (h:∀ i l,i<n→¬ (derives cs (nv cs n rk0 T) i l∧nv cs n rk0 T i l=none)):∀ t,nv cs n rk0 (T+t)=nv cs n rk0 T
 | 0=>rfl
 | t+1=>by
  have ih:=J1 h t;funext i l
  show nv cs n rk0 ((T+t)+1) i l=_;simp only [nv];rw [ih,if_neg (fun q=>h i l q.1 ⟨q.2.2,q.2.1⟩)]
theorem Tv {t i:Nat} {l:List Nat} {r:Nat} (h:nv cs n rk0 t i l=some r):∀ u,nv cs n rk0 (t+u) i l=some r
 | 0=>h
 | u+1=>by
  have ih:=Tv h u;show nv cs n rk0 ((t+u)+1) i l=_;rw [JD (by rw [ih];simp),ih]
theorem iG {t i:Nat} {l:List Nat} {r:Nat} (h:nv cs n rk0 t i l=some r):rk0 i l=some r∨(rk0 i l=none∧1≤r∧r≤t∧nv cs n rk0 (r - 1) i l=none∧derives cs (nv cs n rk0 (r - 1)) i l):=by
 induction t with
 | zero=>exact .inl h
 | succ t ih=>
  by_cases h0:nv cs n rk0 t i l=none
  ·by_cases hd:i<n∧derives cs (nv cs n rk0 t) i l
   ·rw [LR hd.1 h0 hd.2] at h;cases h;refine .inr ⟨?_,by omega,AQ _,h0,hd.2⟩;cases hz:rk0 i l with
    | none=>rfl
    | some q=>
     have:=Tv (cs:=cs) (n:=n) (rk0:=rk0) (t:=0) (i:=i) (l:=l) hz t;rw [Ag,h0] at this;cases this
   ·simp only [nv] at h;rw [if_neg (fun q=>hd ⟨q.1,q.2.2⟩),h0] at h;cases h
  ·rw [JD h0] at h;rcases ih h with q | ⟨q1,q2,q3,q4,q5⟩
   ·exact .inl q
   ·exact .inr ⟨q1,q2,by omega,q4,q5⟩
end
def vT (k:Nat):BN:=⟨true,(k:Int)⟩
def Ie (e p l:Nat):Ac:=⟨⟨p,[vT 0,vT 1]⟩,[(⟨e,[vT 0,vT 1]⟩,false)],l⟩
def IL (e p l:Nat):Ac:=⟨⟨p,[vT 0,vT 1]⟩,[(⟨p,[vT 0,vT 2]⟩,false),(⟨e,[vT 2,vT 1]⟩,false)],l⟩
theorem least {P:Nat→Prop}:∀ {n:Nat},P n→∃ m,m≤n∧P m∧∀ k,k<m→¬ P k:=by
 intro n;induction n using Nat.strongRecOn with
 | ind n ih=>
  intro h;by_cases hk:∃ k,k<n∧P k
  ·obtain ⟨k,h1,h2⟩:=hk;obtain ⟨m,a,b,c⟩:=ih k h1 h2;exact ⟨m,by omega,b,c⟩
  ·exact ⟨n,AQ _,h,fun k h1 h2=>hk ⟨k,h1,h2⟩⟩
theorem X3 {a b c d:Nat} (ha:a<8) (hb:b<8) (hc:c<8) (hd:d<8):[a,b,c,d]∈DP 4:=by
 simp only [DP,Ap,B9,AM,AF];exact ⟨a,ha,_,⟨b,hb,_,⟨c,hc,_,⟨d,hd,_,rfl,rfl⟩,rfl⟩,rfl⟩,rfl⟩
theorem bP {ν:List Nat} (h:ν∈DP 4):∃ a b c d,ν=[a,b,c,d]∧a<8∧b<8∧c<8∧d<8:=by
 simp only [DP,Ap,B9,AM,AF] at h;obtain ⟨a,ha,_,⟨b,hb,_,⟨c,hc,_,⟨d,hd,_,rfl,rfl⟩,rfl⟩,rfl⟩,rfl⟩:=h;exact ⟨a,b,c,d,rfl,ha,hb,hc,hd⟩
section
variable {e p l1 l2 n:Nat} {rk:Nat→List Nat→Option Nat}
theorem SV {x y:Nat} (hx:x<8) (hy:y<8):derives [Ie e p l1,IL e p l2] rk p [x,y]↔(rk e [x,y]).isSome=true∨∃ z,z<8∧(rk p [x,z]).isSome=true∧(rk e [z,y]).isSome=true:=by
 constructor
 ·rintro ⟨c,hc,_,ν,hν,hl,ht⟩;obtain ⟨a,b,u,d,rfl,_,_,hu,_⟩:=bP hν;simp only [AG,A7,or_false] at hc;rcases hc with rfl | rfl
  ·have h1:=hl (⟨e,[vT 0,vT 1]⟩,false) (by simp [Ie]);simp [Ie,vT,Ia] at ht;obtain ⟨rfl,rfl⟩:=ht;simp [FY,vT,Ia] at h1;exact .inl h1
  ·have h1:=hl (⟨p,[vT 0,vT 2]⟩,false) (by simp [IL]);have h2:=hl (⟨e,[vT 2,vT 1]⟩,false) (by simp [IL]);simp [IL,vT,Ia] at ht;obtain ⟨rfl,rfl⟩:=ht;simp [FY,vT,Ia] at h1 h2;exact .inr ⟨u,hu,h1,h2⟩
 ·rintro (h | ⟨z,hz,h1,h2⟩)
  ·refine ⟨Ie e p l1,by simp,rfl,[x,y,0,0],X3 hx hy (by omega) (by omega),fun a ha=>?_,by simp [Ie,vT,Ia]⟩;simp only [Ie,AG,A7,or_false] at ha;subst ha;simpa [FY,vT,Ia] using h
  ·refine ⟨IL e p l2,by simp,rfl,[x,y,z,0],X3 hx hy hz (by omega),fun a ha=>?_,by simp [IL,vT,Ia]⟩;simp only [IL,AG,A7,or_false] at ha;rcases ha with rfl | rfl
   ·simpa [FY,vT,Ia] using h1
   ·simpa [FY,vT,Ia] using h2
theorem RD (he:e≠p):∀ (t:Nat) (l:List Nat),nv [Ie e p l1,IL e p l2] n rk t e l=rk e l
 | 0,_=>rfl
 | t+1,l=>by
  rw [Qd (MJ (fun d hd=>?_) _ _),RD he t l];simp only [AG,A7,or_false] at hd;rcases hd with rfl | rfl <;> exact fun q=>he q.symm
theorem XK (he:e≠p) (hp:p<n) {E:Nat→Nat→Prop} (hE:∀ x y,x<8→y<8→((rk e [x,y]).isSome=true↔E x y)) (h8:∀ x y,E x y→x<8∧y<8) (h0:∀ l,rk p l=none):∀ (t:Nat) {x y:Nat} (_:x<8) (_:y<8) (r:Nat),nv [Ie e p l1,IL e p l2] n rk t p [x,y]=some r↔r≤t∧Nl E 8 r x y∧∀ m,m<r→¬ Nl E 8 m x y
 | 0,x,y,_,_,r=>by
  show rk p [x,y]=some r↔_;rw [h0];constructor
  ·exact fun q=>nomatch q
  ·rintro ⟨h1,h2,_⟩;have:=h2.pos;omega
 | t+1,x,y,hx,hy,r=>by
  have ih:=fun {x y:Nat} (hx:x<8) (hy:y<8) (r:Nat)=>XK he hp hE h8 h0 t hx hy r;have hA:∀ {x y:Nat},x<8→y<8→((nv [Ie e p l1,IL e p l2] n rk t p [x,y]).isSome=true↔∃ q,q≤t∧Nl E 8 q x y):=fun {x y} hx hy=>by
   constructor
   ·intro h;obtain ⟨q,hq⟩:=Bf.1 h;exact ⟨q,((ih hx hy q).1 hq).1,((ih hx hy q).1 hq).2.1⟩
   ·rintro ⟨q,h1,h2⟩;obtain ⟨m,a,b,c⟩:=least (P:=fun q=>Nl E 8 q x y) h2;rw [(ih hx hy m).2 ⟨by omega,b,c⟩];rfl
  have hD:derives [Ie e p l1,IL e p l2] (nv [Ie e p l1,IL e p l2] n rk t) p [x,y]↔∃ q,q≤t+1∧Nl E 8 q x y:=by
   rw [SV hx hy,RD he,hE x y hx hy];constructor
   ·rintro (h | ⟨z,hz,h1,h2⟩)
    ·exact ⟨1,by omega,.one h⟩
    ·obtain ⟨q,a,b⟩:=(hA hx hz).1 h1;rw [RD he,hE z y hz hy] at h2;exact ⟨q+1,by omega,b.trans hz (.one h2)⟩
   ·rintro ⟨q,h1,h2⟩;cases q with
    | zero=>exact absurd h2.pos (by omega)
    | succ q=>
     by_cases hq:0<q
     ·obtain ⟨z,hz,a,b⟩:=h2.last hq;exact .inr ⟨z,hz,(hA hx hz).2 ⟨q,by omega,a⟩,by rw [RD he,hE z y hz hy];exact b⟩
     ·have:q=0:=(by omega);subst this;exact .inl (Nl.one_iff.1 h2)
  cases hn:nv [Ie e p l1,IL e p l2] n rk t p [x,y] with
  | some q=>
   rw [JD (by rw [hn];simp),hn];obtain ⟨a,b,c⟩:=(ih hx hy q).1 hn;constructor
   ·intro e;cases e;exact ⟨by omega,b,c⟩
   ·rintro ⟨_,b2,c2⟩;congr 1
    rcases Nat.lt_trichotomy q r with h | h | h
    ·exact absurd b (c2 q h)
    ·exact h
    ·exact absurd b2 (c r h)
  | none=>
   have hno:∀ q,q≤t→¬ Nl E 8 q x y:=fun q h1 h2=>by
    have:=(hA hx hy).2 ⟨q,h1,h2⟩;rw [hn] at this;cases this
   by_cases hd:derives [Ie e p l1,IL e p l2] (nv [Ie e p l1,IL e p l2] n rk t) p [x,y]
   ·rw [LR hp hn hd];obtain ⟨q,h1,h2⟩:=hD.1 hd;have hq:q=t+1:=by
     by_cases hq:q≤t
     ·exact absurd h2 (hno q hq)
     ·omega
    subst hq;constructor
    ·intro e;cases e;exact ⟨AQ _,h2,fun m hm=>hno m (by omega)⟩
    ·rintro ⟨a,b,c⟩;congr 1
     by_cases hr:r≤t
     ·exact absurd b (hno r hr)
     ·omega
   ·rw [Qd hd,hn];constructor
    ·exact fun q=>nomatch q
    ·rintro ⟨a,b,_⟩;exact absurd (hD.2 ⟨r,a,b⟩) hd
end
end
section
open Go.RowKit
def ba (l:List UInt8):ByteArray:=⟨⟨l⟩⟩
theorem C9 (l:List UInt8):(ba l).size=l.length:=rfl
theorem PV (l:List UInt8) (i:Nat):Dw (ba l) i=((l[i]?.map (fun b=>(b.toNat:Int))).getD 0):=by
 unfold Dw;by_cases h:i<l.length
 ·rw [dif_pos (show i<(ba l).size from h),AB h];rfl
 ·rw [dif_neg (show ¬ i<(ba l).size from h),Af (by omega)];rfl
theorem Ci (c:UInt8) (l:List UInt8):Dw (ba (c :: l)) 0=(c.toNat:Int):=by rw [PV];rfl
theorem Lf {s:ByteArray} {l:List UInt8} (h:s.data.toList=l):s=ba l:=by
 cases s with
 | mk d=>cases d with | mk x=>subst h;rfl
theorem PU (p r:List UInt8):(ba (p++r)).extract 0 p.length=ba p:=by
 apply Lf;rw [DM,Dd];simp [ba,List.extract_eq_take_drop]
theorem Sj (p r:List UInt8):(ba (p++r)).extract p.length (ba (p++r)).size=ba r:=by
 apply Lf;rw [DM,Dd,C9];simp [ba,List.extract_eq_take_drop]
theorem Lw {q:Int→Bool}:∀ (p r:List UInt8) (i k:Nat) (s:ByteArray),(∀ j:Nat,Dw s (i+j)=Dw (ba (p++r)) j)→(∀ b∈p,q (b.toNat:Int)=true)→(q (Dw (ba r) 0)=false∨k=p.length)→p.length≤k→DC q s i k=i+p.length
 | [],r,i,k,s,hs,_,hr,_=>by
  cases k with
  | zero=>rfl
  | succ k=>
   rcases hr with hr | hr
   ·have h0:=hs 0;rw [CY] at h0;rw [DC,h0,BM,hr];rfl
   ·simp at hr
 | b :: p,r,i,k,s,hs,hp,hr,hk=>by
  cases k with
  | zero=>simp at hk
  | succ k=>
   have h0:=hs 0;rw [CY] at h0;rw [DC,h0,A8,Ci,hp b (by simp),if_pos rfl,Lw p r (i+1) k s (fun j=>?_) (fun c hc=>hp c (by simp [hc])) (hr.imp id (fun e=>by simpa using e)) (by simpa using hk)]
   ·simp;omega
   ·rw [show i+1+j=i+(j+1) by omega,hs (j+1),PV,PV];simp
theorem I7 {q:Int→Bool} (p r:List UInt8) (hp:∀ b∈p,q (b.toNat:Int)=true) (hr:q (Dw (ba r) 0)=false∨r=[]):B4 q (ba (p++r))=p.length:=by
 unfold B4;rw [Lw p r 0 (ba (p++r)).size (ba (p++r)) (fun j=>by rw [Ag]) hp (hr.imp id (fun e=>by rw [e,C9];simp)) (by rw [C9];simp),Ag]
def Cd (g:Sg):List UInt8:=(BB g).data.toList
theorem eJ (g:Sg):ba (Cd g)=BB g:=(Lf rfl).symm
def cI (b:UInt8):Int:=(b.toNat:Int)
def HU:Sg→Bool
 | .name s=>match s.data.toList with
  | []=>false
  | b :: l=>E5 (cI b) && (b :: l).all (fun c=>DF (cI c)) && decide (l.length<6) && !((b :: l) == [100,111,109]) && !((b :: l) == [114,101,108])
 | .var s=>match s.data.toList with
  | [b]=>E6 (cI b)
  | [b,c]=>E6 (cI b) && CU (cI c)
  | _=>false
 | .int s=>decide (s.data.toList≠[]) && s.data.toList.all (fun c=>CU (cI c)) && decide (s.data.toList.length≤2)
 | .fin=>false
 | _=>true
def Lz:Sg→Int→Bool
 | .name _,x=>!DF x
 | .dom,x=>!DF x
 | .rel,x=>!DF x
 | .int _,x=>!CU x
 | .var _,x=>!CU x
 | _,_=>true
theorem Mz {b:UInt8} {l r:List UInt8} (h1:E5 (cI b)=true) (h2:∀ c∈b :: l,DF (cI c)=true) (h3:l.length<6) (h4:DF (Dw (ba r) 0)=false∨r=[]):Is (ba ((b :: l)++r))=some (JZ (ba (b :: l)),(b :: l).length):=by
 unfold Is;have e:=I7 (q:=DF) (b :: l) r h2 h4;rw [e,if_pos (by rw [A8,Ci];exact h1),if_pos (by simp;omega),PU]
theorem VQ {l:List UInt8} (h1:(l == [100,111,109])=false) (h2:(l == [114,101,108])=false):JZ (ba l)=.name (ba l):=by
 unfold JZ;rw [show (ba l).toList=l from Gz l,h1,h2];rfl
theorem dY {g:Sg} {r:List UInt8} (hg:HU g=true) (hr:Lz g (Dw (ba r) 0)=true∨r=[]):Is (ba (Cd g++r))=some (g,(Cd g).length):=by
 have dig_no:∀ {x:Int},CU x=true→E5 x=false∧E6 x=false:=fun {x} h=>by
  simp only [CU,A1,decide_eq_true_eq] at h;simp [E6,E5];omega
 cases g with
 | dom=>
  have:=Mz (b:=100) (l:=[111,109]) (r:=r) (by decide) (by decide) (by decide) (hr.imp (fun h=>by simpa [Lz] using h) id);rw [show JZ (ba [100,111,109])=.dom by unfold JZ;rw [show (ba [100,111,109]).toList=[100,111,109] from Gz _];rfl] at this;exact this
 | rel=>
  have:=Mz (b:=114) (l:=[101,108]) (r:=r) (by decide) (by decide) (by decide) (hr.imp (fun h=>by simpa [Lz] using h) id);rw [show JZ (ba [114,101,108])=.rel by unfold JZ;rw [show (ba [114,101,108]).toList=[114,101,108] from Gz _];rfl] at this;exact this
 | name s=>
  cases s with
  | mk d=>cases d with | mk l=>
   cases l with
   | nil=>simp [HU] at hg
   | cons b l=>
    simp only [HU,A1,List.all_eq_true,decide_eq_true_eq,Dm] at hg;obtain ⟨⟨⟨⟨h1,h2⟩,h3⟩,h4⟩,h5⟩:=hg;have:=Mz (r:=r) h1 h2 h3 (hr.imp (fun h=>by simpa [Lz] using h) id);rw [VQ h4 h5] at this;exact this
 | var s=>
  cases s with
  | mk d=>cases d with | mk l=>
   have cap_no:∀ {x:Int},E6 x=true→E5 x=false:=fun {x} h=>by
    simp only [E6,A1,decide_eq_true_eq] at h;simp [E5];omega
   match l,hg with
   | [b],hg=>
    have hb:E6 (cI b)=true:=hg;have h0:Dw (ba (Cd (.var ⟨⟨[b]⟩⟩)++r)) 0=cI b:=Ci b r;have hn:B4 CU ((ba (Cd (.var ⟨⟨[b]⟩⟩)++r)).extract 1 (min 2 (ba (Cd (.var ⟨⟨[b]⟩⟩)++r)).size))=0:=by
     cases r with
     | nil=>rfl
     | cons c r=>
      have he:(ba (Cd (.var ⟨⟨[b]⟩⟩)++c :: r)).extract 1 (min 2 (ba (Cd (.var ⟨⟨[b]⟩⟩)++c :: r)).size)=ba [c]:=by
       apply Lf;rw [DM,Dd,C9];have:min 2 (Cd (.var ⟨⟨[b]⟩⟩)++c :: r).length=2:=(by simp [Cd,BB]);rw [this];simp [ba,Cd,BB,List.extract_eq_take_drop]
      rw [he];have hc:CU (cI c)=false:=by
       rcases hr with hr | hr
       ·rw [Ci] at hr;simpa [Lz,cI] using hr
       ·cases hr
      have:=I7 (q:=CU) [] [c] (by simp) (.inl (by rw [Ci];exact hc));exact this
    unfold Is;rw [h0,if_neg (by rw [cap_no hb];decide),if_pos hb,hn];have:=PU [b] r;rw [show (ba (Cd (.var ⟨⟨[b]⟩⟩)++r)).extract 0 (1+0)=ba [b] from this];rfl
   | [b,c],hg=>
    simp only [HU,A1] at hg;obtain ⟨hb,hc⟩:=hg;have h0:Dw (ba (Cd (.var ⟨⟨[b,c]⟩⟩)++r)) 0=cI b:=Ci b _;have hn:B4 CU ((ba (Cd (.var ⟨⟨[b,c]⟩⟩)++r)).extract 1 (min 2 (ba (Cd (.var ⟨⟨[b,c]⟩⟩)++r)).size))=1:=by
     have he:(ba (Cd (.var ⟨⟨[b,c]⟩⟩)++r)).extract 1 (min 2 (ba (Cd (.var ⟨⟨[b,c]⟩⟩)++r)).size)=ba [c]:=by
      apply Lf;rw [DM,Dd,C9];have:min 2 (Cd (.var ⟨⟨[b,c]⟩⟩)++r).length=2:=(by simp [Cd,BB]);rw [this];simp [ba,Cd,BB,List.extract_eq_take_drop]
     rw [he];have:=I7 (q:=CU) [c] [] (by intro x hx;simp at hx;subst hx;exact hc) (.inr rfl);exact this
    unfold Is;rw [h0,if_neg (by rw [cap_no hb];decide),if_pos hb,hn];have:=PU [b,c] r;rw [show (ba (Cd (.var ⟨⟨[b,c]⟩⟩)++r)).extract 0 (1+1)=ba [b,c] from this];rfl
 | int s=>
  cases s with
  | mk d=>cases d with | mk l=>
   simp only [HU,A1,List.all_eq_true,decide_eq_true_eq] at hg;obtain ⟨⟨h1,h2⟩,h3⟩:=hg;cases l with
   | nil=>exact absurd rfl h1
   | cons b l=>
    have hb:CU (cI b)=true:=h2 b (by simp);have h0:Dw (ba (Cd (.int ⟨⟨b :: l⟩⟩)++r)) 0=cI b:=Ci b _;have hn:B4 CU (ba (Cd (.int ⟨⟨b :: l⟩⟩)++r))=(b :: l).length:=I7 (q:=CU) (b :: l) r h2 (hr.imp (fun h=>by simpa [Lz] using h) id);unfold Is;rw [h0,if_neg (by rw [(dig_no hb).1];decide),if_neg (by rw [(dig_no hb).2];decide),if_pos hb,hn,if_pos h3];have:=PU (b :: l) r;rw [show (ba (Cd (.int ⟨⟨b :: l⟩⟩)++r)).extract 0 (b :: l).length=ba (b :: l) from this];rfl
 | fin=>cases hg
 | arrow=>
  have h0:Dw (ba (Cd .arrow++r)) 0=58:=Ci 58 _;have ha:Ev (ba (Cd .arrow++r))=true:=by
   unfold Ev;have:=PU (Cd .arrow) r;rw [show (ba (Cd .arrow++r)).extract 0 2=ba (Cd .arrow) from this,show (ba (Cd .arrow)).toList=[58,45] from Gz _];simp [C9,Cd,BB]
  unfold Is;rw [h0,if_neg (by decide),if_neg (by decide),if_neg (by decide),if_neg (by decide),if_pos ha];rfl
 | lp=>unfold Is;rw [show Dw (ba (Cd .lp++r)) 0=40 from Ci 40 _];rfl
 | rp=>unfold Is;rw [show Dw (ba (Cd .rp++r)) 0=41 from Ci 41 _];rfl
 | comma=>unfold Is;rw [show Dw (ba (Cd .comma++r)) 0=44 from Ci 44 _];rfl
 | semi=>unfold Is;rw [show Dw (ba (Cd .semi++r)) 0=59 from Ci 59 _];rfl
 | dot=>unfold Is;rw [show Dw (ba (Cd .dot++r)) 0=46 from Ci 46 _];rfl
 | bang=>unfold Is;rw [show Dw (ba (Cd .bang++r)) 0=33 from Ci 33 _];rfl
theorem QM {g:Sg} (hg:HU g=true) (r:List UInt8):(Cd g).length≠0∧Dw (ba (Cd g++r)) 0≠10∧Dw (ba (Cd g++r)) 0≠32∧Dw (ba (Cd g++r)) 0≠9∧Dw (ba (Cd g++r)) 0≠37:=by
 have low:∀ {x:Int},E5 x=true∨E6 x=true∨CU x=true→x≠10∧x≠32∧x≠9∧x≠37:=fun {x} h=>by
  simp only [E5,E6,CU,A1,decide_eq_true_eq] at h;omega
 have key:∀ (b:UInt8) (l:List UInt8),(E5 (cI b)=true∨E6 (cI b)=true∨CU (cI b)=true)→(b :: l).length≠0∧Dw (ba ((b :: l)++r)) 0≠10∧Dw (ba ((b :: l)++r)) 0≠32∧Dw (ba ((b :: l)++r)) 0≠9∧Dw (ba ((b :: l)++r)) 0≠37:=fun b l h=>by
  rw [show Dw (ba ((b :: l)++r)) 0=cI b from Ci b _];exact ⟨by simp,low h⟩
 cases g with
 | dom=>exact key 100 [111,109] (by decide)
 | rel=>exact key 114 [101,108] (by decide)
 | name s=>
  cases s with
  | mk d=>cases d with | mk l=>
   cases l with
   | nil=>simp [HU] at hg
   | cons b l=>
    simp only [HU,A1] at hg;exact key b l (.inl hg.1.1.1.1)
 | var s=>
  cases s with
  | mk d=>cases d with | mk l=>
   match l,hg with
   | [b],hg=>exact key b [] (.inr (.inl hg))
   | [b,c],hg=>simp only [HU,A1] at hg;exact key b [c] (.inr (.inl hg.1))
 | int s=>
  cases s with
  | mk d=>cases d with | mk l=>
   simp only [HU,A1,List.all_eq_true,decide_eq_true_eq] at hg;cases l with
   | nil=>exact absurd rfl hg.1.1
   | cons b l=>exact key b l (.inr (.inr (hg.1.2 b (by simp))))
 | fin=>cases hg
 | arrow=>rw [show Dw (ba (Cd .arrow++r)) 0=58 from Ci 58 _];decide
 | lp=>rw [show Dw (ba (Cd .lp++r)) 0=40 from Ci 40 _];decide
 | rp=>rw [show Dw (ba (Cd .rp++r)) 0=41 from Ci 41 _];decide
 | comma=>rw [show Dw (ba (Cd .comma++r)) 0=44 from Ci 44 _];decide
 | semi=>rw [show Dw (ba (Cd .semi++r)) 0=59 from Ci 59 _];decide
 | dot=>rw [show Dw (ba (Cd .dot++r)) 0=46 from Ci 46 _];decide
 | bang=>rw [show Dw (ba (Cd .bang++r)) 0=33 from Ci 33 _];decide
inductive Pc where
 | t (g:Sg)
 | sp
 | nl
def Iz:Pc→List UInt8
 | .t g=>Cd g
 | .sp=>[32]
 | .nl=>[10]
def Ae (ps:List Pc):List UInt8:=ps.flatMap Iz
def Bc:List Pc→Nat→List Tn
 | [],_=>[]
 | .t g :: ps,l=>⟨g,l⟩ :: Bc ps l
 | .sp :: ps,l=>Bc ps l
 | .nl :: ps,l=>Bc ps (l+1)
def C4:List Pc→Nat→Nat
 | [],l=>l
 | .t _ :: ps,l=>C4 ps l
 | .sp :: ps,l=>C4 ps l
 | .nl :: ps,l=>C4 ps (l+1)
def JC:List Pc→Bool
 | []=>true
 | .t g :: ps=>HU g && (ps.isEmpty || Lz g (Dw (ba (Ae ps)) 0)) && JC ps
 | _ :: ps=>JC ps
theorem CJ (p:Pc) (ps:List Pc):Ae (p :: ps)=Iz p++Ae ps:=by simp [Ae]
theorem Ay (ps qs:List Pc):Ae (ps++qs)=Ae ps++Ae qs:=by simp [Ae]
theorem E2:∀ (ps:List Pc) (k l:Nat),JC ps=true→(Ae ps).length≤k→FH k (ba (Ae ps)) l=.inl (Bc ps l,C4 ps l)
 | [],k,l,_,_=>by cases k <;> rfl
 | .sp :: ps,k,l,h,hk=>by
  rw [CJ] at hk ⊢;cases k with
  | zero=>simp [Iz] at hk
  | succ k=>
   have hr:=Sj [32] (Ae ps);rw [FH,if_neg (by rw [C9];simp [Iz]),show Dw (ba (Iz .sp++Ae ps)) 0=32 from Ci 32 _,if_neg (by decide),if_pos (.inl rfl),show (ba (Iz .sp++Ae ps)).extract 1 (ba (Iz .sp++Ae ps)).size=ba (Ae ps) from hr];exact E2 ps k l h (by simpa [Iz] using hk)
 | .nl :: ps,k,l,h,hk=>by
  rw [CJ] at hk ⊢;cases k with
  | zero=>simp [Iz] at hk
  | succ k=>
   have hr:=Sj [10] (Ae ps);rw [FH,if_neg (by rw [C9];simp [Iz]),show Dw (ba (Iz .nl++Ae ps)) 0=10 from Ci 10 _,if_pos rfl,show (ba (Iz .nl++Ae ps)).extract 1 (ba (Iz .nl++Ae ps)).size=ba (Ae ps) from hr];exact E2 ps k (l+1) h (by simpa [Iz] using hk)
 | .t g :: ps,k,l,h,hk=>by
  rw [CJ] at hk ⊢;simp only [JC,A1,Cu] at h;obtain ⟨⟨h1,h2⟩,h3⟩:=h;obtain ⟨f0,f1,f2,f3,f4⟩:=QM h1 (Ae ps);have hc:=dY (r:=Ae ps) h1 (h2.symm.imp id (fun e=>by cases ps <;> simp at e;rfl));have hr:=Sj (Cd g) (Ae ps);cases k with
  | zero=>simp [Iz] at hk;exact absurd (by rw [hk.1];rfl) f0
  | succ k=>
   show FH (k+1) (ba (Cd g++Ae ps)) l=_;have hk2:(Cd g).length+(Ae ps).length≤k+1:=(by simpa [Iz] using hk);rw [FH,if_neg (by rw [C9];simp;intro e;exact absurd (by rw [e];rfl) f0),if_neg f1,if_neg (by rintro (e | e);exact f2 e;exact f3 e),if_neg f4,hc];simp only [hr];rw [E2 ps k l h3 (by omega)];rfl
theorem CF:∀ (p q:List Pc) (l:Nat),Bc (p++q) l=Bc p l++Bc q (C4 p l)
 | [],_,_=>rfl
 | .t g :: p,q,l=>by simp only [A8,Bc,C4];rw [CF p q l]
 | .sp :: p,q,l=>CF p q l
 | .nl :: p,q,l=>CF p q (l+1)
theorem C7:∀ (p q:List Pc) (l:Nat),C4 (p++q) l=C4 q (C4 p l)
 | [],_,_=>rfl
 | .t _ :: p,q,l=>C7 p q l
 | .sp :: p,q,l=>C7 p q l
 | .nl :: p,q,l=>C7 p q (l+1)
def dB:Pc→Bool
 | .t _=>false
 | _=>true
theorem N4:∀ (p q:List Pc),JC p=true→(p.getLast?.map dB).getD true=true→JC q=true→JC (p++q)=true
 | [],_,_,_,h=>h
 | .sp :: p,q,h1,h2,h3=>N4 p q h1 (by cases p with | nil=>rfl | cons x p=>simpa using h2) h3
 | .nl :: p,q,h1,h2,h3=>N4 p q h1 (by cases p with | nil=>rfl | cons x p=>simpa using h2) h3
 | [.t g],q,h1,h2,h3=>by simp [dB] at h2
 | .t g :: x :: p,q,h1,h2,h3=>by
  simp only [JC,A1,A8] at h1 ⊢;refine ⟨⟨h1.1.1,?_⟩,N4 (x :: p) q h1.2 (by simpa using h2) h3⟩;have hx:∀ r,Dw (ba (Ae (x :: r))) 0=Dw (ba (Iz x)) 0:=fun r=>by
   have hz:(Iz x).length≠0:=by
    cases x with
    | sp=>simp [Iz]
    | nl=>simp [Iz]
    | t y=>
     have:=h1.2;simp only [JC,A1] at this;exact (QM this.1.1 []).1
   rw [CJ,PV,PV,Az (by omega)]
  have h4:=h1.1.2;simp only [List.isEmpty_cons,Bool.false_or] at h4 ⊢;rw [hx] at h4 ⊢;exact h4
def Br (ts:List Tn) (is:List CM) (us:List Tn):Prop:=∀ k,DO (k+is.length) ts=match DO k us with
 | .error l=>.error l
 | .ok r=>.ok (is++r)
theorem Br.one {ts us:List Tn} {i:CM} (h:Fx ts=.ok (i,us)) (hf:E1 J7 ts=false):Br ts [i] us:=fun k=>by
 show DO (k+1) ts=_;rw [DO,hf,if_neg (by decide),h];dsimp only;cases DO k us <;> rfl
theorem Br.nil (ts:List Tn):Br ts [] ts:=fun k=>by
 show DO k ts=_;cases DO k ts <;> rfl
theorem Br.trans {ts us vs:List Tn} {is js:List CM} (h:Br ts is us) (h2:Br us js vs):Br ts (is++js) vs:=fun k=>by
 have e:k+(is++js).length=(k+js.length)+is.length:=by simp;omega
 rw [e,h (k+js.length),h2 k];cases DO k vs with
 | error l=>rfl
 | ok r=>simp
theorem GD:∀ (m:Mean) (is js:List CM),Bh m (is++js)=match Bh m is with
  | .error f=>.error f
  | .ok m'=>Bh m' js
 | m,[],js=>rfl
 | m,i :: is,js=>by
  simp only [A8,Bh];cases D0 m i with
  | error f=>rfl
  | ok m'=>exact GD m' is js
def P0 (l:List UInt8):Pc:=.t (.name (ba l))
def GZ (k:Nat):ByteArray:=ba [UInt8.ofNat (48+k)]
def ZM (k:Nat):Pc:=.t (.int (GZ k))
def HI (c:UInt8):Pc:=.t (.var (ba [c]))
theorem T3 {k:Nat} (h:k<10):Cp (.int (GZ k))=(k:Int):=by
 have:k=0∨k=1∨k=2∨k=3∨k=4∨k=5∨k=6∨k=7∨k=8∨k=9:=by omega
 rcases this with rfl | rfl | rfl | rfl | rfl | rfl | rfl | rfl | rfl | rfl <;> rfl
theorem OK {k:Nat} (h:k<10):HU (.int (GZ k))=true:=by
 have:k=0∨k=1∨k=2∨k=3∨k=4∨k=5∨k=6∨k=7∨k=8∨k=9:=by omega
 rcases this with rfl | rfl | rfl | rfl | rfl | rfl | rfl | rfl | rfl | rfl <;> rfl
def domP (k:Nat):List Pc:=[.t .dom,.sp,P0 [100],.sp,ZM k,.t .semi,.sp]
def lC (n:List UInt8) (s:Pc):List Pc:=[.t .rel,.sp,P0 n,.t .lp,P0 [100],.t .rp,.t .semi,s]
def Ja (n:List UInt8) (s:Pc):List Pc:=[.t .rel,.sp,P0 n,.t .lp,P0 [100],.t .comma,.sp,P0 [100],.t .rp,.t .semi,s]
def Gk (n:List UInt8) (a b:Pc):List Pc:=[P0 n,.t .lp,a,.t .comma,.sp,b,.t .rp]
def QK (s:Pc):List Pc:=Gk [112] (HI 88) (HI 89)++[.sp,.t .arrow,.sp]++Gk [101] (HI 88) (HI 89)++[.t .dot,s]
def jL (e:Nat×Nat):List Pc:=Gk [101] (ZM e.1) (ZM e.2)++[.t .dot,.sp]
def dT (l:Nat):Tn:=⟨.name (ba [100]),l⟩
def Zg (n:List UInt8) (a b:Sg) (l:Nat):Dx:=⟨⟨.name (ba n),l⟩,[⟨a,l⟩,⟨b,l⟩]⟩
def vS (c:UInt8):Sg:=.var (ba [c])
def eI2 (l:Nat) (e:Nat×Nat):CM:=.clause (Zg [101] (.int (GZ e.1)) (.int (GZ e.2)) l) []
theorem Mv {α:Type} {f:α→List Pc} (hf:∀ a l,C4 (f a) l=l):∀ (xs:List α) (l:Nat),C4 (xs.flatMap f) l=l
 | [],_=>rfl
 | a :: xs,l=>by rw [A6,C7,hf,Mv hf xs l]
def cT (k:Nat):BN:=⟨false,(k:Int)⟩
end
end Go.Proofs.YtgjomknpjigkhaaGreatDoor
