import Derived.Test.YtgjomknpjigkhaaGreatDoorU17
namespace Go.Proofs.YtgjomknpjigkhaaGreatDoor
set_option maxRecDepth 100000
set_option maxHeartbeats 4000000
section
inductive Way (E:Nat→Nat→Prop) (k:Nat):Nat→Nat→Nat→Prop
 | one {x y:Nat}:E x y→Way E k 1 x y
 | cons {n x z y:Nat}:E x z→z<k→Way E k n z y→Way E k (n+1) x y
theorem Way.pos {E:Nat→Nat→Prop} {k n x y:Nat} (h:Way E k n x y):0<n:=by
 cases h <;> omega
theorem Way.trans {E:Nat→Nat→Prop} {k n m x z y:Nat} (h:Way E k n x z) (hz:z<k) (h2:Way E k m z y):Way E k (n+m) x y:=by
 induction h with
 | one h=>rw [Nat.add_comm];exact .cons h hz h2
 | cons h1 h3 _ ih=>rw [Nat.add_right_comm];exact .cons h1 h3 (ih hz h2)
theorem Way.last {E:Nat→Nat→Prop} {k n x y:Nat} (h:Way E k (n+1) x y) (hn:0<n):∃ z,z<k∧Way E k n x z∧E z y:=by
 induction n generalizing x with
 | zero=>omega
 | succ n ih=>
  cases h with
  | @cons m _ z _ h1 h2 h3=>
   cases n with
   | zero=>
    cases h3 with
    | one h4=>exact ⟨z,h2,.one h1,h4⟩
    | cons _ _ h5=>exact absurd h5.pos (by omega)
   | succ n=>
    obtain ⟨u,hu,h4,h5⟩:=ih h3 (by omega);exact ⟨u,hu,.cons h1 h2 h4,h5⟩
theorem Way.one_iff {E:Nat→Nat→Prop} {k x y:Nat}:Way E k 1 x y↔E x y:=by
 constructor
 ·intro h;cases h with
  | one h=>exact h
  | cons _ _ h=>exact absurd h.pos (by omega)
 ·exact .one
end
section
def vQD (cs:List iQA) (rk:Nat→List Nat→Option Nat) (i:Nat) (l:List Nat):Prop:=∃ c∈cs,c.head.rel=i∧bQK c.head.terms (fun ν=>∀ a∈c.lits,litH rk a ν) l
def NegOk (cs:List iQA):Prop:=∀ c∈cs,∀ a∈c.lits,a.2=true→∀ d∈cs,d.head.rel≠a.1.rel
def RelOk (cs:List iQA) (n:Nat):Prop:=∀ c∈cs,c.head.rel<n∧∀ a∈c.lits,a.1.rel<n
open Classical in
noncomputable def nv (cs:List iQA) (n:Nat) (rk0:Nat→List Nat→Option Nat):Nat→Nat→List Nat→Option Nat
 | 0=>rk0
 | t+1=>fun i l=>if i<n∧nv cs n rk0 t i l=none∧vQD cs (nv cs n rk0 t) i l then some (t+1) else nv cs n rk0 t i l
section
variable {cs:List iQA} {n:Nat} {rk0:Nat→List Nat→Option Nat}
theorem nv_old {t i:Nat} {l:List Nat} (h:nv cs n rk0 t i l≠none):nv cs n rk0 (t+1) i l=nv cs n rk0 t i l:=by
 simp only [nv];rw [if_neg (fun q=>h q.2.1)]
theorem nv_new {t i:Nat} {l:List Nat} (hi:i<n) (h:nv cs n rk0 t i l=none) (hd:vQD cs (nv cs n rk0 t) i l):nv cs n rk0 (t+1) i l=some (t+1):=by
 simp only [nv];rw [if_pos ⟨hi,h,hd⟩]
theorem nv_no {t i:Nat} {l:List Nat} (hd:¬ vQD cs (nv cs n rk0 t) i l):nv cs n rk0 (t+1) i l=nv cs n rk0 t i l:=by
 simp only [nv];rw [if_neg (fun q=>hd q.2.2)]
theorem nv_some {t i:Nat} {l:List Nat} (hi:i<n):(nv cs n rk0 (t+1) i l).isSome=true↔(nv cs n rk0 t i l).isSome=true∨(vQD cs (nv cs n rk0 t) i l∧nv cs n rk0 t i l=none):=by
 by_cases h:nv cs n rk0 t i l=none
 ·by_cases hd:vQD cs (nv cs n rk0 t) i l
  ·rw [nv_new hi h hd];simp [h,hd]
  ·rw [nv_no hd];simp [h,hd]
 ·rw [nv_old h];simp [h]
theorem derives_none {i:Nat} (h:∀ d∈cs,d.head.rel≠i) (rk:Nat→List Nat→Option Nat) (l:List Nat):¬ vQD cs rk i l:=fun ⟨d,hd,e,_⟩=>h d hd e
theorem litH_step (hneg:NegOk cs) (hrel:RelOk cs n) {c:iQA} (hc:c∈cs) {a:yQA×Bool} (ha:a∈c.lits) (t:Nat) (ν:List Nat):litH (nv cs n rk0 (t+1)) a ν↔litH (nv cs n rk0 t) a ν∨(vQD cs (nv cs n rk0 t) a.1.rel (a.1.terms.map (tvR ν))∧nv cs n rk0 t a.1.rel (a.1.terms.map (tvR ν))=none):=by
 unfold litH;cases h2:a.2 with
 | true=>
  have hd:=derives_none (hneg c hc a ha h2) (nv cs n rk0 t) (a.1.terms.map (tvR ν));simp only [if_true];rw [nv_no hd];simp [hd]
 | false=>
  rw [if_neg (by simp),if_neg (by simp)];exact nv_some ((hrel c hc).2 a ha)
theorem rnd_nv (hneg:NegOk cs) (hrel:RelOk cs n):∀ t,(rnd cs n rk0 (uQC cs rk0) t).rk=nv cs n rk0 t∧(∀ (p:Nat) (c:iQA),cs[p]?=some c→((rnd cs n rk0 (uQC cs rk0) t).hs p).length=c.lits.length∧∀ (k:Nat) (a:yQA×Bool),c.lits[k]?=some a→∃ H,((rnd cs n rk0 (uQC cs rk0) t).hs p)[k]?=some H∧∀ ν,H ν↔litH (nv cs n rk0 t) a ν)∧∀ (i:Nat) (l:List Nat),i<n→((rnd cs n rk0 (uQC cs rk0) t).x i l↔vQD cs (nv cs n rk0 t) i l∧nv cs n rk0 t i l=none)
 | 0=>by
  have hh:∀ (p:Nat) (c:iQA),cs[p]?=some c→uQC cs rk0 p=c.lits.map (litH rk0):=fun p c hc=>by unfold uQC;rw [hc]
  refine ⟨rfl,fun p c hc=>⟨?_,fun k a ha=>⟨litH rk0 a,?_,fun ν=>Iff.rfl⟩⟩,fun i l hi=>?_⟩
  ·show (uQC cs rk0 p).length=_;rw [hh p c hc];simp
  ·show (uQC cs rk0 p)[k]?=_;rw [hh p c hc,List.getElem?_map,ha];rfl
  ·show outX (beginC cs (uQC cs rk0)) rk0 n i l↔vQD cs rk0 i l∧rk0 i l=none;unfold outX;have e1:beginC cs (uQC cs rk0) i l↔vQD cs rk0 i l:=by
    constructor
    ·rintro ⟨p,c,hc,hr,ν,h1,h2,h3⟩;refine ⟨c,List.mem_of_getElem? hc,hr,ν,h1,fun a ha=>?_,h3⟩;obtain ⟨k,hk,rfl⟩:=List.getElem_of_mem ha;exact h2 k _ hk (by rw [hh p c hc,List.getElem?_map,List.getElem?_eq_getElem hk];rfl)
    ·rintro ⟨c,hc,hr,ν,h1,h2,h3⟩;obtain ⟨p,hp,rfl⟩:=List.getElem_of_mem hc;have hc':=List.getElem?_eq_getElem hp;refine ⟨p,_,hc',hr,ν,h1,fun k H hk hH=>?_,h3⟩;rw [hh p _ hc',List.getElem?_map] at hH;obtain ⟨a,ha,rfl⟩:=Option.map_eq_some_iff.1 hH;exact h2 a (List.mem_of_getElem? ha)
   rw [e1];constructor
   ·exact fun q=>⟨q.1,by have:=q.2 hi;cases h:rk0 i l <;> simp_all⟩
   ·exact fun q=>⟨q.1,fun _=>by rw [q.2];simp⟩
 | t+1=>by
  obtain ⟨h1,h2,h3⟩:=rnd_nv hneg hrel t;have er:(rnd cs n rk0 (uQC cs rk0) (t+1)).rk=nv cs n rk0 (t+1):=by
   show uQD (rnd cs n rk0 (uQC cs rk0) t).rk (rnd cs n rk0 (uQC cs rk0) t).x (t+1) n=_;funext i l
   unfold uQD;by_cases hi:i<n
   ·rw [if_pos hi];unfold fQJ;by_cases hx:(rnd cs n rk0 (uQC cs rk0) t).x i l
    ·rw [if_pos hx];have:=(h3 i l hi).1 hx;rw [nv_new hi this.2 this.1]
    ·rw [if_neg hx,h1];by_cases hn:nv cs n rk0 t i l=none
     ·rw [nv_no (fun hd=>hx ((h3 i l hi).2 ⟨hd,hn⟩))]
     ·rw [nv_old hn]
   ·rw [if_neg hi,h1];simp only [nv];rw [if_neg (fun q=>hi q.1)]
  have eh:∀ (p:Nat) (c:iQA),cs[p]?=some c→(rnd cs n rk0 (uQC cs rk0) (t+1)).hs p=orTo ((rnd cs n rk0 (uQC cs rk0) t).hs p) (c.lits.map (kQH (rnd cs n rk0 (uQC cs rk0) t).x)) c.lits.length:=fun p c hc=>by
   show hsC cs _ _ p=_;unfold hsC;rw [hc]
  have hH:∀ (p:Nat) (c:iQA),cs[p]?=some c→∀ (k:Nat) (a:yQA×Bool),c.lits[k]?=some a→∃ H,(orTo ((rnd cs n rk0 (uQC cs rk0) t).hs p) (c.lits.map (kQH (rnd cs n rk0 (uQC cs rk0) t).x)) c.lits.length)[k]?=some H∧∀ ν,H ν↔litH (nv cs n rk0 (t+1)) a ν:=fun p c hc k a ha=>by
   obtain ⟨hl,hk⟩:=h2 p c hc;obtain ⟨H,e1,e2⟩:=hk k a ha;have hkl:=(List.getElem?_eq_some_iff.1 ha).1;have hm:=List.mem_of_getElem? hc;have ham:=List.mem_of_getElem? ha;refine ⟨orF ((rnd cs n rk0 (uQC cs rk0) t).hs p) (c.lits.map (kQH (rnd cs n rk0 (uQC cs rk0) t).x)) c.lits.length k,?_,fun ν=>?_⟩
   ·unfold orTo;rw [List.getElem?_map,List.getElem?_range (by rw [hl];exact hkl)];rfl
   ·rw [litH_step hneg hrel hm ham,←h3 _ _ ((hrel c hm).2 a ham)];unfold orF;constructor
    ·rintro (⟨G,g1,g2⟩ | ⟨_,C,g1,g2⟩)
     ·rw [e1] at g1;cases g1;exact .inl ((e2 ν).1 g2)
     ·rw [List.getElem?_map,ha] at g1;cases g1;exact .inr g2
    ·rintro (g | g)
     ·exact .inl ⟨H,e1,(e2 ν).2 g⟩
     ·exact .inr ⟨hkl,_,by rw [List.getElem?_map,ha];rfl,g⟩
  have hall:∀ (p:Nat) (c:iQA),cs[p]?=some c→∀ ν,allH (orTo ((rnd cs n rk0 (uQC cs rk0) t).hs p) (c.lits.map (kQH (rnd cs n rk0 (uQC cs rk0) t).x)) c.lits.length) c.lits.length ν↔∀ a∈c.lits,litH (nv cs n rk0 (t+1)) a ν:=fun p c hc ν=>by
   constructor
   ·intro q a ha;obtain ⟨k,hk,rfl⟩:=List.getElem_of_mem ha;obtain ⟨H,e1,e2⟩:=hH p c hc k _ (List.getElem?_eq_getElem hk);exact (e2 ν).1 (q k H hk e1)
   ·intro q k H hk hHk;obtain ⟨H',e1,e2⟩:=hH p c hc k _ (List.getElem?_eq_getElem hk);rw [e1] at hHk;cases hHk;exact (e2 ν).2 (q _ (List.getElem_mem hk))
  refine ⟨er,fun p c hc=>⟨?_,fun k a ha=>?_⟩,fun i l hi=>?_⟩
  ·rw [eh p c hc];unfold orTo;simp [(h2 p c hc).1]
  ·rw [eh p c hc];exact hH p c hc k a ha
  ·show outX (thenC cs (rnd cs n rk0 (uQC cs rk0) t).hs (rnd cs n rk0 (uQC cs rk0) t).x) (rnd cs n rk0 (uQC cs rk0) (t+1)).rk n i l↔_;rw [er];unfold outX;constructor
   ·rintro ⟨⟨p,c,k,a,hc,hr,_,ν,g1,g2,g3⟩,hn⟩;refine ⟨⟨c,List.mem_of_getElem? hc,hr,ν,g1,(hall p c hc ν).1 g2.2,g3⟩,?_⟩;have:=hn hi;cases h:nv cs n rk0 (t+1) i l <;> simp_all
   ·rintro ⟨⟨c,hc,hr,ν,g1,g2,g3⟩,hn⟩;refine ⟨?_,fun _=>by rw [hn];simp⟩;obtain ⟨p,hp,rfl⟩:=List.getElem_of_mem hc;have hc':=List.getElem?_eq_getElem hp;by_cases hx:∃ (k:Nat) (a:yQA×Bool),(cs[p]).lits[k]?=some a∧kQH (rnd cs n rk0 (uQC cs rk0) t).x a ν
    ·obtain ⟨k,a,ha,hx⟩:=hx;exact ⟨p,_,k,a,hc',hr,ha,ν,g1,⟨hx,(hall p _ hc' ν).2 g2⟩,g3⟩
    ·exfalso
     have hd:vQD cs (nv cs n rk0 t) i l:=⟨_,hc,hr,ν,g1,fun a ha=>by
      rcases (litH_step hneg hrel hc ha t ν).1 (g2 a ha) with q | q
      ·exact q
      ·obtain ⟨k,hk,e⟩:=List.getElem_of_mem ha
       exact absurd ⟨k,a,by rw [List.getElem?_eq_getElem hk,e],(h3 _ _ ((hrel _ hc).2 a ha)).2 q⟩ hx,g3⟩
     by_cases h0:nv cs n rk0 t i l=none
     ·rw [nv_new hi h0 hd] at hn;cases hn
     ·rw [nv_old h0] at hn;exact h0 hn
theorem nv_still {T:Nat} (h:∀ i l,i<n→¬ (vQD cs (nv cs n rk0 T) i l∧nv cs n rk0 T i l=none)):∀ t,nv cs n rk0 (T+t)=nv cs n rk0 T
 | 0=>rfl
 | t+1=>by
  have ih:=nv_still h t;funext i l
  show nv cs n rk0 ((T+t)+1) i l=_;simp only [nv];rw [ih,if_neg (fun q=>h i l q.1 ⟨q.2.2,q.2.1⟩)]
end
end
section
def vT (k:Nat):uQA:=⟨true,(k:Int)⟩
def way1 (e p l:Nat):iQA:=⟨⟨p,[vT 0,vT 1]⟩,[(⟨e,[vT 0,vT 1]⟩,false)],l⟩
def way2 (e p l:Nat):iQA:=⟨⟨p,[vT 0,vT 1]⟩,[(⟨p,[vT 0,vT 2]⟩,false),(⟨e,[vT 2,vT 1]⟩,false)],l⟩
theorem least {P:Nat→Prop}:∀ {n:Nat},P n→∃ m,m≤n∧P m∧∀ k,k<m→¬ P k:=by
 intro n;induction n using Nat.strongRecOn with
 | ind n ih=>
  intro h;by_cases hk:∃ k,k<n∧P k
  ·obtain ⟨k,h1,h2⟩:=hk;obtain ⟨m,a,b,c⟩:=ih k h1 h2;exact ⟨m,by omega,b,c⟩
  ·exact ⟨n,Nat.le_refl _,h,fun k h1 h2=>hk ⟨k,h1,h2⟩⟩
theorem alls4 {a b c d:Nat} (ha:a<8) (hb:b<8) (hc:c<8) (hd:d<8):[a,b,c,d]∈alls 4:=by
 simp only [alls,List.mem_flatMap,List.mem_range,List.mem_map,List.mem_singleton];exact ⟨a,ha,_,⟨b,hb,_,⟨c,hc,_,⟨d,hd,_,rfl,rfl⟩,rfl⟩,rfl⟩,rfl⟩
theorem of_alls4 {ν:List Nat} (h:ν∈alls 4):∃ a b c d,ν=[a,b,c,d]∧a<8∧b<8∧c<8∧d<8:=by
 simp only [alls,List.mem_flatMap,List.mem_range,List.mem_map,List.mem_singleton] at h;obtain ⟨a,ha,_,⟨b,hb,_,⟨c,hc,_,⟨d,hd,_,rfl,rfl⟩,rfl⟩,rfl⟩,rfl⟩:=h;exact ⟨a,b,c,d,rfl,ha,hb,hc,hd⟩
section
variable {e p l1 l2 n:Nat} {rk:Nat→List Nat→Option Nat}
theorem derives_ways {x y:Nat} (hx:x<8) (hy:y<8):vQD [way1 e p l1,way2 e p l2] rk p [x,y]↔(rk e [x,y]).isSome=true∨∃ z,z<8∧(rk p [x,z]).isSome=true∧(rk e [z,y]).isSome=true:=by
 constructor
 ·rintro ⟨c,hc,_,ν,hν,hl,ht⟩;obtain ⟨a,b,u,d,rfl,_,_,hu,_⟩:=of_alls4 hν;simp only [List.mem_cons,List.not_mem_nil,or_false] at hc;rcases hc with rfl | rfl
  ·have h1:=hl (⟨e,[vT 0,vT 1]⟩,false) (by simp [way1]);simp [way1,vT,tvR] at ht;obtain ⟨rfl,rfl⟩:=ht;simp [litH,vT,tvR] at h1;exact .inl h1
  ·have h1:=hl (⟨p,[vT 0,vT 2]⟩,false) (by simp [way2]);have h2:=hl (⟨e,[vT 2,vT 1]⟩,false) (by simp [way2]);simp [way2,vT,tvR] at ht;obtain ⟨rfl,rfl⟩:=ht;simp [litH,vT,tvR] at h1 h2;exact .inr ⟨u,hu,h1,h2⟩
 ·rintro (h | ⟨z,hz,h1,h2⟩)
  ·refine ⟨way1 e p l1,by simp,rfl,[x,y,0,0],alls4 hx hy (by omega) (by omega),fun a ha=>?_,by simp [way1,vT,tvR]⟩;simp only [way1,List.mem_cons,List.not_mem_nil,or_false] at ha;subst ha;simpa [litH,vT,tvR] using h
  ·refine ⟨way2 e p l2,by simp,rfl,[x,y,z,0],alls4 hx hy hz (by omega),fun a ha=>?_,by simp [way2,vT,tvR]⟩;simp only [way2,List.mem_cons,List.not_mem_nil,or_false] at ha;rcases ha with rfl | rfl
   ·simpa [litH,vT,tvR] using h1
   ·simpa [litH,vT,tvR] using h2
theorem ways_e (he:e≠p):∀ (t:Nat) (l:List Nat),nv [way1 e p l1,way2 e p l2] n rk t e l=rk e l
 | 0,_=>rfl
 | t+1,l=>by
  rw [nv_no (derives_none (fun d hd=>?_) _ _),ways_e he t l];simp only [List.mem_cons,List.not_mem_nil,or_false] at hd;rcases hd with rfl | rfl <;> exact fun q=>he q.symm
theorem ways_nv (he:e≠p) (hp:p<n) {E:Nat→Nat→Prop} (hE:∀ x y,x<8→y<8→((rk e [x,y]).isSome=true↔E x y)) (h8:∀ x y,E x y→x<8∧y<8) (h0:∀ l,rk p l=none):∀ (t:Nat) {x y:Nat} (_:x<8) (_:y<8) (r:Nat),nv [way1 e p l1,way2 e p l2] n rk t p [x,y]=some r↔r≤t∧Way E 8 r x y∧∀ m,m<r→¬ Way E 8 m x y
 | 0,x,y,_,_,r=>by
  show rk p [x,y]=some r↔_;rw [h0];constructor
  ·exact fun q=>nomatch q
  ·rintro ⟨h1,h2,_⟩;have:=h2.pos;omega
 | t+1,x,y,hx,hy,r=>by
  have ih:=fun {x y:Nat} (hx:x<8) (hy:y<8) (r:Nat)=>ways_nv he hp hE h8 h0 t hx hy r;have hA:∀ {x y:Nat},x<8→y<8→((nv [way1 e p l1,way2 e p l2] n rk t p [x,y]).isSome=true↔∃ q,q≤t∧Way E 8 q x y):=fun {x y} hx hy=>by
   constructor
   ·intro h;obtain ⟨q,hq⟩:=Option.isSome_iff_exists.1 h;exact ⟨q,((ih hx hy q).1 hq).1,((ih hx hy q).1 hq).2.1⟩
   ·rintro ⟨q,h1,h2⟩;obtain ⟨m,a,b,c⟩:=least (P:=fun q=>Way E 8 q x y) h2;rw [(ih hx hy m).2 ⟨by omega,b,c⟩];rfl
  have hD:vQD [way1 e p l1,way2 e p l2] (nv [way1 e p l1,way2 e p l2] n rk t) p [x,y]↔∃ q,q≤t+1∧Way E 8 q x y:=by
   rw [derives_ways hx hy,ways_e he,hE x y hx hy];constructor
   ·rintro (h | ⟨z,hz,h1,h2⟩)
    ·exact ⟨1,by omega,.one h⟩
    ·obtain ⟨q,a,b⟩:=(hA hx hz).1 h1;rw [ways_e he,hE z y hz hy] at h2;exact ⟨q+1,by omega,b.trans hz (.one h2)⟩
   ·rintro ⟨q,h1,h2⟩;cases q with
    | zero=>exact absurd h2.pos (by omega)
    | succ q=>
     by_cases hq:0<q
     ·obtain ⟨z,hz,a,b⟩:=h2.last hq;exact .inr ⟨z,hz,(hA hx hz).2 ⟨q,by omega,a⟩,by rw [ways_e he,hE z y hz hy];exact b⟩
     ·have:q=0:=(by omega);subst this;exact .inl (Way.one_iff.1 h2)
  cases hn:nv [way1 e p l1,way2 e p l2] n rk t p [x,y] with
  | some q=>
   rw [nv_old (by rw [hn];simp),hn];obtain ⟨a,b,c⟩:=(ih hx hy q).1 hn;constructor
   ·intro e;cases e;exact ⟨by omega,b,c⟩
   ·rintro ⟨_,b2,c2⟩;congr 1
    rcases Nat.lt_trichotomy q r with h | h | h
    ·exact absurd b (c2 q h)
    ·exact h
    ·exact absurd b2 (c r h)
  | none=>
   have hno:∀ q,q≤t→¬ Way E 8 q x y:=fun q h1 h2=>by
    have:=(hA hx hy).2 ⟨q,h1,h2⟩;rw [hn] at this;cases this
   by_cases hd:vQD [way1 e p l1,way2 e p l2] (nv [way1 e p l1,way2 e p l2] n rk t) p [x,y]
   ·rw [nv_new hp hn hd];obtain ⟨q,h1,h2⟩:=hD.1 hd;have hq:q=t+1:=by
     by_cases hq:q≤t
     ·exact absurd h2 (hno q hq)
     ·omega
    subst hq;constructor
    ·intro e;cases e;exact ⟨Nat.le_refl _,h2,fun m hm=>hno m (by omega)⟩
    ·rintro ⟨a,b,c⟩;congr 1
     by_cases hr:r≤t
     ·exact absurd b (hno r hr)
     ·omega
   ·rw [nv_no hd,hn];constructor
    ·exact fun q=>nomatch q
    ·rintro ⟨a,b,_⟩;exact absurd (hD.2 ⟨r,a,b⟩) hd
end
end
section
open Go.RowKit
def ba (l:List UInt8):ByteArray:=⟨⟨l⟩⟩
theorem eQD (l:List UInt8):(ba l).size=l.length:=rfl
theorem ba_ltr (l:List UInt8) (i:Nat):ltr (ba l) i=((l[i]?.map (fun b=>(b.toNat:Int))).getD 0):=by
 unfold ltr;by_cases h:i<l.length
 ·rw [dif_pos (show i<(ba l).size from h),List.getElem?_eq_getElem h];rfl
 ·rw [dif_neg (show ¬ i<(ba l).size from h),List.getElem?_eq_none (by omega)];rfl
theorem sQB (c:UInt8) (l:List UInt8):ltr (ba (c :: l)) 0=(c.toNat:Int):=by rw [ba_ltr];rfl
theorem ba_ext {s:ByteArray} {l:List UInt8} (h:s.data.toList=l):s=ba l:=by
 cases s with
 | mk d=>cases d with | mk x=>subst h;rfl
theorem ba_pre (p r:List UInt8):(ba (p++r)).extract 0 p.length=ba p:=by
 apply ba_ext;rw [ByteArray.data_extract,Array.toList_extract];simp [ba,List.extract_eq_take_drop]
theorem ba_rest (p r:List UInt8):(ba (p++r)).extract p.length (ba (p++r)).size=ba r:=by
 apply ba_ext;rw [ByteArray.data_extract,Array.toList_extract,eQD];simp [ba,List.extract_eq_take_drop]
theorem spanFrom_app {q:Int→Bool}:∀ (p r:List UInt8) (i k:Nat) (s:ByteArray),(∀ j:Nat,ltr s (i+j)=ltr (ba (p++r)) j)→(∀ b∈p,q (b.toNat:Int)=true)→(q (ltr (ba r) 0)=false∨k=p.length)→p.length≤k→zQB q s i k=i+p.length
 | [],r,i,k,s,hs,_,hr,_=>by
  cases k with
  | zero=>rfl
  | succ k=>
   rcases hr with hr | hr
   ·have h0:=hs 0;rw [Nat.add_zero] at h0;rw [zQB,h0,List.nil_append,hr];rfl
   ·simp at hr
 | b :: p,r,i,k,s,hs,hp,hr,hk=>by
  cases k with
  | zero=>simp at hk
  | succ k=>
   have h0:=hs 0;rw [Nat.add_zero] at h0;rw [zQB,h0,List.cons_append,sQB,hp b (by simp),if_pos rfl,spanFrom_app p r (i+1) k s (fun j=>?_) (fun c hc=>hp c (by simp [hc])) (hr.imp id (fun e=>by simpa using e)) (by simpa using hk)]
   ·simp;omega
   ·rw [show i+1+j=i+(j+1) by omega,hs (j+1),ba_ltr,ba_ltr];simp
theorem mQK {q:Int→Bool} (p r:List UInt8) (hp:∀ b∈p,q (b.toNat:Int)=true) (hr:q (ltr (ba r) 0)=false∨r=[]):hQB q (ba (p++r))=p.length:=by
 unfold hQB;rw [spanFrom_app p r 0 (ba (p++r)).size (ba (p++r)) (fun j=>by rw [Nat.zero_add]) hp (hr.imp id (fun e=>by rw [e,eQD];simp)) (by rw [eQD];simp),Nat.zero_add]
def tokB (g:Sg):List UInt8:=(txt g).data.toList
theorem ba_tok (g:Sg):ba (tokB g)=txt g:=(ba_ext rfl).symm
def cI (b:UInt8):Int:=(b.toNat:Int)
def tokOk:Sg→Bool
 | .name s=>match s.data.toList with
  | []=>false
  | b :: l=>bQH (cI b) && (b :: l).all (fun c=>aQD (cI c)) && decide (l.length<6) && !((b :: l) == [100,111,109]) && !((b :: l) == [114,101,108])
 | .var s=>match s.data.toList with
  | [b]=>cQH (cI b)
  | [b,c]=>cQH (cI b) && hQC (cI c)
  | _=>false
 | .int s=>decide (s.data.toList≠[]) && s.data.toList.all (fun c=>hQC (cI c)) && decide (s.data.toList.length≤2)
 | .fin=>false
 | _=>true
def sepOk:Sg→Int→Bool
 | .name _,x=>!aQD x
 | .dom,x=>!aQD x
 | .rel,x=>!aQD x
 | .int _,x=>!hQC x
 | .var _,x=>!hQC x
 | _,_=>true
theorem cutG_word {b:UInt8} {l r:List UInt8} (h1:bQH (cI b)=true) (h2:∀ c∈b :: l,aQD (cI c)=true) (h3:l.length<6) (h4:aQD (ltr (ba r) 0)=false∨r=[]):cutG (ba ((b :: l)++r))=some (wordG (ba (b :: l)),(b :: l).length):=by
 unfold cutG;have e:=mQK (q:=aQD) (b :: l) r h2 h4;rw [e,if_pos (by rw [List.cons_append,sQB];exact h1),if_pos (by simp;omega),ba_pre]
theorem wordG_name {l:List UInt8} (h1:(l == [100,111,109])=false) (h2:(l == [114,101,108])=false):wordG (ba l)=.name (ba l):=by
 unfold wordG;rw [show (ba l).toList=l from yQH l,h1,h2];rfl
theorem cutG_tok {g:Sg} {r:List UInt8} (hg:tokOk g=true) (hr:sepOk g (ltr (ba r) 0)=true∨r=[]):cutG (ba (tokB g++r))=some (g,(tokB g).length):=by
 have dig_no:∀ {x:Int},hQC x=true→bQH x=false∧cQH x=false:=fun {x} h=>by
  simp only [hQC,Bool.and_eq_true,decide_eq_true_eq] at h;simp [cQH,bQH];omega
 cases g with
 | dom=>
  have:=cutG_word (b:=100) (l:=[111,109]) (r:=r) (by decide) (by decide) (by decide) (hr.imp (fun h=>by simpa [sepOk] using h) id);rw [show wordG (ba [100,111,109])=.dom by unfold wordG;rw [show (ba [100,111,109]).toList=[100,111,109] from yQH _];rfl] at this;exact this
 | rel=>
  have:=cutG_word (b:=114) (l:=[101,108]) (r:=r) (by decide) (by decide) (by decide) (hr.imp (fun h=>by simpa [sepOk] using h) id);rw [show wordG (ba [114,101,108])=.rel by unfold wordG;rw [show (ba [114,101,108]).toList=[114,101,108] from yQH _];rfl] at this;exact this
 | name s=>
  cases s with
  | mk d=>cases d with | mk l=>
   cases l with
   | nil=>simp [tokOk] at hg
   | cons b l=>
    simp only [tokOk,Bool.and_eq_true,List.all_eq_true,decide_eq_true_eq,Bool.not_eq_true'] at hg;obtain ⟨⟨⟨⟨h1,h2⟩,h3⟩,h4⟩,h5⟩:=hg;have:=cutG_word (r:=r) h1 h2 h3 (hr.imp (fun h=>by simpa [sepOk] using h) id);rw [wordG_name h4 h5] at this;exact this
 | var s=>
  cases s with
  | mk d=>cases d with | mk l=>
   have cap_no:∀ {x:Int},cQH x=true→bQH x=false:=fun {x} h=>by
    simp only [cQH,Bool.and_eq_true,decide_eq_true_eq] at h;simp [bQH];omega
   match l,hg with
   | [b],hg=>
    have hb:cQH (cI b)=true:=hg;have h0:ltr (ba (tokB (.var ⟨⟨[b]⟩⟩)++r)) 0=cI b:=sQB b r;have hn:hQB hQC ((ba (tokB (.var ⟨⟨[b]⟩⟩)++r)).extract 1 (min 2 (ba (tokB (.var ⟨⟨[b]⟩⟩)++r)).size))=0:=by
     cases r with
     | nil=>rfl
     | cons c r=>
      have he:(ba (tokB (.var ⟨⟨[b]⟩⟩)++c :: r)).extract 1 (min 2 (ba (tokB (.var ⟨⟨[b]⟩⟩)++c :: r)).size)=ba [c]:=by
       apply ba_ext;rw [ByteArray.data_extract,Array.toList_extract,eQD];have:min 2 (tokB (.var ⟨⟨[b]⟩⟩)++c :: r).length=2:=(by simp [tokB,txt]);rw [this];simp [ba,tokB,txt,List.extract_eq_take_drop]
      rw [he];have hc:hQC (cI c)=false:=by
       rcases hr with hr | hr
       ·rw [sQB] at hr;simpa [sepOk,cI] using hr
       ·cases hr
      have:=mQK (q:=hQC) [] [c] (by simp) (.inl (by rw [sQB];exact hc));exact this
    unfold cutG;rw [h0,if_neg (by rw [cap_no hb];decide),if_pos hb,hn];have:=ba_pre [b] r;rw [show (ba (tokB (.var ⟨⟨[b]⟩⟩)++r)).extract 0 (1+0)=ba [b] from this];rfl
   | [b,c],hg=>
    simp only [tokOk,Bool.and_eq_true] at hg;obtain ⟨hb,hc⟩:=hg;have h0:ltr (ba (tokB (.var ⟨⟨[b,c]⟩⟩)++r)) 0=cI b:=sQB b _;have hn:hQB hQC ((ba (tokB (.var ⟨⟨[b,c]⟩⟩)++r)).extract 1 (min 2 (ba (tokB (.var ⟨⟨[b,c]⟩⟩)++r)).size))=1:=by
     have he:(ba (tokB (.var ⟨⟨[b,c]⟩⟩)++r)).extract 1 (min 2 (ba (tokB (.var ⟨⟨[b,c]⟩⟩)++r)).size)=ba [c]:=by
      apply ba_ext;rw [ByteArray.data_extract,Array.toList_extract,eQD];have:min 2 (tokB (.var ⟨⟨[b,c]⟩⟩)++r).length=2:=(by simp [tokB,txt]);rw [this];simp [ba,tokB,txt,List.extract_eq_take_drop]
     rw [he];have:=mQK (q:=hQC) [c] [] (by intro x hx;simp at hx;subst hx;exact hc) (.inr rfl);exact this
    unfold cutG;rw [h0,if_neg (by rw [cap_no hb];decide),if_pos hb,hn];have:=ba_pre [b,c] r;rw [show (ba (tokB (.var ⟨⟨[b,c]⟩⟩)++r)).extract 0 (1+1)=ba [b,c] from this];rfl
 | int s=>
  cases s with
  | mk d=>cases d with | mk l=>
   simp only [tokOk,Bool.and_eq_true,List.all_eq_true,decide_eq_true_eq] at hg;obtain ⟨⟨h1,h2⟩,h3⟩:=hg;cases l with
   | nil=>exact absurd rfl h1
   | cons b l=>
    have hb:hQC (cI b)=true:=h2 b (by simp);have h0:ltr (ba (tokB (.int ⟨⟨b :: l⟩⟩)++r)) 0=cI b:=sQB b _;have hn:hQB hQC (ba (tokB (.int ⟨⟨b :: l⟩⟩)++r))=(b :: l).length:=mQK (q:=hQC) (b :: l) r h2 (hr.imp (fun h=>by simpa [sepOk] using h) id);unfold cutG;rw [h0,if_neg (by rw [(dig_no hb).1];decide),if_neg (by rw [(dig_no hb).2];decide),if_pos hb,hn,if_pos h3];have:=ba_pre (b :: l) r;rw [show (ba (tokB (.int ⟨⟨b :: l⟩⟩)++r)).extract 0 (b :: l).length=ba (b :: l) from this];rfl
 | fin=>cases hg
 | arrow=>
  have h0:ltr (ba (tokB .arrow++r)) 0=58:=sQB 58 _;have ha:bQF (ba (tokB .arrow++r))=true:=by
   unfold bQF;have:=ba_pre (tokB .arrow) r;rw [show (ba (tokB .arrow++r)).extract 0 2=ba (tokB .arrow) from this,show (ba (tokB .arrow)).toList=[58,45] from yQH _];simp [eQD,tokB,txt]
  unfold cutG;rw [h0,if_neg (by decide),if_neg (by decide),if_neg (by decide),if_neg (by decide),if_pos ha];rfl
 | lp=>unfold cutG;rw [show ltr (ba (tokB .lp++r)) 0=40 from sQB 40 _];rfl
 | rp=>unfold cutG;rw [show ltr (ba (tokB .rp++r)) 0=41 from sQB 41 _];rfl
 | comma=>unfold cutG;rw [show ltr (ba (tokB .comma++r)) 0=44 from sQB 44 _];rfl
 | semi=>unfold cutG;rw [show ltr (ba (tokB .semi++r)) 0=59 from sQB 59 _];rfl
 | dot=>unfold cutG;rw [show ltr (ba (tokB .dot++r)) 0=46 from sQB 46 _];rfl
 | bang=>unfold cutG;rw [show ltr (ba (tokB .bang++r)) 0=33 from sQB 33 _];rfl
theorem tok_first {g:Sg} (hg:tokOk g=true) (r:List UInt8):(tokB g).length≠0∧ltr (ba (tokB g++r)) 0≠10∧ltr (ba (tokB g++r)) 0≠32∧ltr (ba (tokB g++r)) 0≠9∧ltr (ba (tokB g++r)) 0≠37:=by
 have low:∀ {x:Int},bQH x=true∨cQH x=true∨hQC x=true→x≠10∧x≠32∧x≠9∧x≠37:=fun {x} h=>by
  simp only [bQH,cQH,hQC,Bool.and_eq_true,decide_eq_true_eq] at h;omega
 have key:∀ (b:UInt8) (l:List UInt8),(bQH (cI b)=true∨cQH (cI b)=true∨hQC (cI b)=true)→(b :: l).length≠0∧ltr (ba ((b :: l)++r)) 0≠10∧ltr (ba ((b :: l)++r)) 0≠32∧ltr (ba ((b :: l)++r)) 0≠9∧ltr (ba ((b :: l)++r)) 0≠37:=fun b l h=>by
  rw [show ltr (ba ((b :: l)++r)) 0=cI b from sQB b _];exact ⟨by simp,low h⟩
 cases g with
 | dom=>exact key 100 [111,109] (by decide)
 | rel=>exact key 114 [101,108] (by decide)
 | name s=>
  cases s with
  | mk d=>cases d with | mk l=>
   cases l with
   | nil=>simp [tokOk] at hg
   | cons b l=>
    simp only [tokOk,Bool.and_eq_true] at hg;exact key b l (.inl hg.1.1.1.1)
 | var s=>
  cases s with
  | mk d=>cases d with | mk l=>
   match l,hg with
   | [b],hg=>exact key b [] (.inr (.inl hg))
   | [b,c],hg=>simp only [tokOk,Bool.and_eq_true] at hg;exact key b [c] (.inr (.inl hg.1))
 | int s=>
  cases s with
  | mk d=>cases d with | mk l=>
   simp only [tokOk,Bool.and_eq_true,List.all_eq_true,decide_eq_true_eq] at hg;cases l with
   | nil=>exact absurd rfl hg.1.1
   | cons b l=>exact key b l (.inr (.inr (hg.1.2 b (by simp))))
 | fin=>cases hg
 | arrow=>rw [show ltr (ba (tokB .arrow++r)) 0=58 from sQB 58 _];decide
 | lp=>rw [show ltr (ba (tokB .lp++r)) 0=40 from sQB 40 _];decide
 | rp=>rw [show ltr (ba (tokB .rp++r)) 0=41 from sQB 41 _];decide
 | comma=>rw [show ltr (ba (tokB .comma++r)) 0=44 from sQB 44 _];decide
 | semi=>rw [show ltr (ba (tokB .semi++r)) 0=59 from sQB 59 _];decide
 | dot=>rw [show ltr (ba (tokB .dot++r)) 0=46 from sQB 46 _];decide
 | bang=>rw [show ltr (ba (tokB .bang++r)) 0=33 from sQB 33 _];decide
inductive Pc where
 | t (g:Sg)
 | sp
 | nl
def pcB:Pc→List UInt8
 | .t g=>tokB g
 | .sp=>[32]
 | .nl=>[10]
def jQA (ps:List Pc):List UInt8:=ps.flatMap pcB
def fQB:List Pc→Nat→List Tn
 | [],_=>[]
 | .t g :: ps,l=>⟨g,l⟩ :: fQB ps l
 | .sp :: ps,l=>fQB ps l
 | .nl :: ps,l=>fQB ps (l+1)
def kQD:List Pc→Nat→Nat
 | [],l=>l
 | .t _ :: ps,l=>kQD ps l
 | .sp :: ps,l=>kQD ps l
 | .nl :: ps,l=>kQD ps (l+1)
def okP:List Pc→Bool
 | []=>true
 | .t g :: ps=>tokOk g && (ps.isEmpty || sepOk g (ltr (ba (jQA ps)) 0)) && okP ps
 | _ :: ps=>okP ps
theorem kQB (p:Pc) (ps:List Pc):jQA (p :: ps)=pcB p++jQA ps:=by simp [jQA]
theorem nQA (ps qs:List Pc):jQA (ps++qs)=jQA ps++jQA qs:=by simp [jQA]
theorem mQF:∀ (ps:List Pc) (k l:Nat),okP ps=true→(jQA ps).length≤k→hQH k (ba (jQA ps)) l=.inl (fQB ps l,kQD ps l)
 | [],k,l,_,_=>by cases k <;> rfl
 | .sp :: ps,k,l,h,hk=>by
  rw [kQB] at hk ⊢;cases k with
  | zero=>simp [pcB] at hk
  | succ k=>
   have hr:=ba_rest [32] (jQA ps);rw [hQH,if_neg (by rw [eQD];simp [pcB]),show ltr (ba (pcB .sp++jQA ps)) 0=32 from sQB 32 _,if_neg (by decide),if_pos (.inl rfl),show (ba (pcB .sp++jQA ps)).extract 1 (ba (pcB .sp++jQA ps)).size=ba (jQA ps) from hr];exact mQF ps k l h (by simpa [pcB] using hk)
 | .nl :: ps,k,l,h,hk=>by
  rw [kQB] at hk ⊢;cases k with
  | zero=>simp [pcB] at hk
  | succ k=>
   have hr:=ba_rest [10] (jQA ps);rw [hQH,if_neg (by rw [eQD];simp [pcB]),show ltr (ba (pcB .nl++jQA ps)) 0=10 from sQB 10 _,if_pos rfl,show (ba (pcB .nl++jQA ps)).extract 1 (ba (pcB .nl++jQA ps)).size=ba (jQA ps) from hr];exact mQF ps k (l+1) h (by simpa [pcB] using hk)
 | .t g :: ps,k,l,h,hk=>by
  rw [kQB] at hk ⊢;simp only [okP,Bool.and_eq_true,Bool.or_eq_true] at h;obtain ⟨⟨h1,h2⟩,h3⟩:=h;obtain ⟨f0,f1,f2,f3,f4⟩:=tok_first h1 (jQA ps);have hc:=cutG_tok (r:=jQA ps) h1 (h2.symm.imp id (fun e=>by cases ps <;> simp at e;rfl));have hr:=ba_rest (tokB g) (jQA ps);cases k with
  | zero=>simp [pcB] at hk;exact absurd (by rw [hk.1];rfl) f0
  | succ k=>
   show hQH (k+1) (ba (tokB g++jQA ps)) l=_;have hk2:(tokB g).length+(jQA ps).length≤k+1:=(by simpa [pcB] using hk);rw [hQH,if_neg (by rw [eQD];simp;intro e;exact absurd (by rw [e];rfl) f0),if_neg f1,if_neg (by rintro (e | e);exact f2 e;exact f3 e),if_neg f4,hc];simp only [hr];rw [mQF ps k l h3 (by omega)];rfl
end
section
open Go.RowKit
theorem dQB:∀ (p q:List Pc) (l:Nat),fQB (p++q) l=fQB p l++fQB q (kQD p l)
 | [],_,_=>rfl
 | .t g :: p,q,l=>by simp only [List.cons_append,fQB,kQD];rw [dQB p q l]
 | .sp :: p,q,l=>dQB p q l
 | .nl :: p,q,l=>dQB p q (l+1)
theorem uQB:∀ (p q:List Pc) (l:Nat),kQD (p++q) l=kQD q (kQD p l)
 | [],_,_=>rfl
 | .t _ :: p,q,l=>uQB p q l
 | .sp :: p,q,l=>uQB p q l
 | .nl :: p,q,l=>uQB p q (l+1)
def isSepP:Pc→Bool
 | .t _=>false
 | _=>true
theorem okP_app:∀ (p q:List Pc),okP p=true→(p.getLast?.map isSepP).getD true=true→okP q=true→okP (p++q)=true
 | [],_,_,_,h=>h
 | .sp :: p,q,h1,h2,h3=>okP_app p q h1 (by cases p with | nil=>rfl | cons x p=>simpa using h2) h3
 | .nl :: p,q,h1,h2,h3=>okP_app p q h1 (by cases p with | nil=>rfl | cons x p=>simpa using h2) h3
 | [.t g],q,h1,h2,h3=>by simp [isSepP] at h2
 | .t g :: x :: p,q,h1,h2,h3=>by
  simp only [okP,Bool.and_eq_true,List.cons_append] at h1 ⊢;refine ⟨⟨h1.1.1,?_⟩,okP_app (x :: p) q h1.2 (by simpa using h2) h3⟩;have hx:∀ r,ltr (ba (jQA (x :: r))) 0=ltr (ba (pcB x)) 0:=fun r=>by
   have hz:(pcB x).length≠0:=by
    cases x with
    | sp=>simp [pcB]
    | nl=>simp [pcB]
    | t y=>
     have:=h1.2;simp only [okP,Bool.and_eq_true] at this;exact (tok_first this.1.1 []).1
   rw [kQB,ba_ltr,ba_ltr,List.getElem?_append_left (by omega)]
  have h4:=h1.1.2;simp only [List.isEmpty_cons,Bool.false_or] at h4 ⊢;rw [hx] at h4 ⊢;exact h4
def wQA (ts:List Tn) (is:List vQB) (us:List Tn):Prop:=∀ k,zQC (k+is.length) ts=match zQC k us with
 | .error l=>.error l
 | .ok r=>.ok (is++r)
theorem wQA.one {ts us:List Tn} {i:vQB} (h:sQI ts=.ok (i,us)) (hf:sees isFinG ts=false):wQA ts [i] us:=fun k=>by
 show zQC (k+1) ts=_;rw [zQC,hf,if_neg (by decide),h];dsimp only;cases zQC k us <;> rfl
theorem wQA.nil (ts:List Tn):wQA ts [] ts:=fun k=>by
 show zQC k ts=_;cases zQC k ts <;> rfl
theorem wQA.trans {ts us vs:List Tn} {is js:List vQB} (h:wQA ts is us) (h2:wQA us js vs):wQA ts (is++js) vs:=fun k=>by
 have e:k+(is++js).length=(k+js.length)+is.length:=by simp;omega
 rw [e,h (k+js.length),h2 k];cases zQC k vs with
 | error l=>rfl
 | ok r=>simp
theorem senseS_app:∀ (m:Mean) (is js:List vQB),xQB m (is++js)=match xQB m is with
  | .error f=>.error f
  | .ok m'=>xQB m' js
 | m,[],js=>rfl
 | m,i :: is,js=>by
  simp only [List.cons_append,xQB];cases nQD m i with
  | error f=>rfl
  | ok m'=>exact senseS_app m' is js
def nmP (l:List UInt8):Pc:=.t (.name (ba l))
def dgB (k:Nat):ByteArray:=ba [UInt8.ofNat (48+k)]
def inP (k:Nat):Pc:=.t (.int (dgB k))
def vrP (c:UInt8):Pc:=.t (.var (ba [c]))
theorem numOf_dg {k:Nat} (h:k<10):yQC (.int (dgB k))=(k:Int):=by
 have:k=0∨k=1∨k=2∨k=3∨k=4∨k=5∨k=6∨k=7∨k=8∨k=9:=by omega
 rcases this with rfl | rfl | rfl | rfl | rfl | rfl | rfl | rfl | rfl | rfl <;> rfl
theorem tokOk_dg {k:Nat} (h:k<10):tokOk (.int (dgB k))=true:=by
 have:k=0∨k=1∨k=2∨k=3∨k=4∨k=5∨k=6∨k=7∨k=8∨k=9:=by omega
 rcases this with rfl | rfl | rfl | rfl | rfl | rfl | rfl | rfl | rfl | rfl <;> rfl
def domP (k:Nat):List Pc:=[.t .dom,.sp,nmP [100],.sp,inP k,.t .semi,.sp]
def relP1 (n:List UInt8) (s:Pc):List Pc:=[.t .rel,.sp,nmP n,.t .lp,nmP [100],.t .rp,.t .semi,s]
def relP2 (n:List UInt8) (s:Pc):List Pc:=[.t .rel,.sp,nmP n,.t .lp,nmP [100],.t .comma,.sp,nmP [100],.t .rp,.t .semi,s]
def atP2 (n:List UInt8) (a b:Pc):List Pc:=[nmP n,.t .lp,a,.t .comma,.sp,b,.t .rp]
def wayP1 (s:Pc):List Pc:=atP2 [112] (vrP 88) (vrP 89)++[.sp,.t .arrow,.sp]++atP2 [101] (vrP 88) (vrP 89)++[.t .dot,s]
def ePz (e:Nat×Nat):List Pc:=atP2 [101] (inP e.1) (inP e.2)++[.t .dot,.sp]
def dT (l:Nat):Tn:=⟨.name (ba [100]),l⟩
def atI2 (n:List UInt8) (a b:Sg) (l:Nat):dQE:=⟨⟨.name (ba n),l⟩,[⟨a,l⟩,⟨b,l⟩]⟩
def vS (c:UInt8):Sg:=.var (ba [c])
def eI2 (l:Nat) (e:Nat×Nat):vQB:=.clause (atI2 [101] (.int (dgB e.1)) (.int (dgB e.2)) l) []
theorem flat_line {α:Type} {f:α→List Pc} (hf:∀ a l,kQD (f a) l=l):∀ (xs:List α) (l:Nat),kQD (xs.flatMap f) l=l
 | [],_=>rfl
 | a :: xs,l=>by rw [List.flatMap_cons,uQB,hf,flat_line hf xs l]
end
section
open Go.RowKit
def cT (k:Nat):uQA:=⟨false,(k:Int)⟩
end
end Go.Proofs.YtgjomknpjigkhaaGreatDoor
