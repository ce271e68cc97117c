import Derived.Test.YtgjomknpjigkhaaGreatDoorZ30
import Derived.Test.YtgjomknpjigkhaaGreatDoorZ28
namespace Go.Proofs.YtgjomknpjigkhaaGreatDoor
set_option maxRecDepth 100000
set_option maxHeartbeats 4000000
section
open Go.RowKit
def Bx (m:Mean) (vals:List Nat) (lay:Nat):List Ac:=(m.clauses.filter D7).filter (fun c=>decide (vals.getD c.head.rel 0=lay))
noncomputable def Dh (n:Nat) (vals:List Nat) (Fs:Nat→List Nat→Prop) (rk:Nat→List Nat→Option Nat) (lay:Nat):Nat→List Nat→Option Nat:=fun i=>if i<n∧vals.getD i 0=lay then Fk (fun _=>none) (Fs i) 0 else rk i
def XE (m:Mean) (vals:List Nat) (Fs:Nat→List Nat→Prop) (lay:Nat) (rk rk':Nat→List Nat→Option Nat):Prop:=∃ T,∀ t,T≤t→rk' = nv (Bx m vals lay) m.rels.length (Dh m.rels.length vals Fs rk lay) t
inductive Ji (m:Mean) (vals:List Nat) (Fs:Nat→List Nat→Prop) (rk:Nat→List Nat→Option Nat):Nat→(Nat→List Nat→Option Nat)→Prop
 | refl:Ji m vals Fs rk 0 rk
 | step {b:Nat} {rk1 rk2:Nat→List Nat→Option Nat}:Ji m vals Fs rk b rk1→XE m vals Fs b rk1 rk2→Ji m vals Fs rk (b+1) rk2
theorem Nb {α β:Type} {f:α→β} {p:α→Bool} {q:β→Bool}:∀ (l:List α),(∀ a∈l,p a=q (f a))→(l.filter p).map f=(l.map f).filter q
 | [],_=>rfl
 | a :: l,h=>by
  have ih:=Nb l (fun b hb=>h b (by simp [hb]));rw [Au,CD,CD,h a (by simp)];split
  ·rw [Au,ih]
  ·exact ih
structure fD (m:Mean) (vals:List Nat) (rs:List BF):Prop where
 len:rs.length=m.rels.length
 rel:∀ (i:Nat) (r:BF),rs[i]?=some r→r.n=(m.cols i).length∧r.layer=vals.getD i 0
theorem fD.lay {m:Mean} {vals:List Nat} {rs:List BF} (h:fD m vals rs) {i:Nat} (hi:i<m.rels.length):Fw rs i=vals.getD i 0:=by
 obtain ⟨r,hr⟩:∃ r,rs[i]?=some r:=⟨_,AB (by rw [h.len];exact hi)⟩;unfold Fw;rw [hr];exact (h.rel i r hr).2
theorem cM {m:Mean} {vals:List Nat} {rs:List BF} {ks:List CluX} (h:fD m vals rs) (hf:Dt m) (hst:Dr layG m.clauses vals) (hk:ks.map (·.c)=m.clauses.filter D7) {Fs:Nat→List Nat→Prop} {lay:Nat} {rk rk':Nat→List Nat→Option Nat} (hs:MT rs Fs ks lay rk rk'):XE m vals Fs lay rk rk':=by
 have hcm:∀ k∈ks,k.c∈m.clauses:=fun k hkm=>by
  have:k.c∈m.clauses.filter D7:=by rw [←hk];exact AM.2 ⟨k,hkm,rfl⟩
  exact (Ai.1 this).1
 have ecs:(ks.filter (FI rs lay)).map (·.c)=Bx m vals lay:=by
  unfold Bx;rw [←hk];refine Nb ks (fun k hkm=>?_);unfold FI;rw [h.lay (hf.heads _ (hcm k hkm)).rel]
 have elv:Dz rs Fs rk lay rs.length=Dh m.rels.length vals Fs rk lay:=by
  funext i
  unfold Dz Dh;rw [h.len];by_cases hi:i<m.rels.length
  ·rw [h.lay hi]
  ·rw [if_neg (fun q=>hi q.1),if_neg (fun q=>hi q.1)]
 unfold MT at hs;rw [ecs,elv,h.len] at hs;obtain ⟨T,e,hx⟩:=hs;have hmem:∀ c∈Bx m vals lay,c∈m.clauses∧vals.getD c.head.rel 0=lay:=fun c hc=>by
  unfold Bx at hc;obtain ⟨h1,h2⟩:=Ai.1 hc;exact ⟨(Ai.1 h1).1,by simpa using h2⟩
 have hneg:fG (Bx m vals lay):=fun c hc a ha h2 d hd e=>by
  obtain ⟨c1,c2⟩:=hmem c hc;obtain ⟨d1,d2⟩:=hmem d hd;have q:max (vals.getD c.head.rel 0) (vals.getD a.1.rel 0+(if a.2 then 1 else 0))=vals.getD c.head.rel 0:=hst c c1 a ha;rw [h2,if_pos rfl,←e,c2,d2] at q;omega
 have hrel:fE (Bx m vals lay) m.rels.length:=fun c hc=>⟨(hf.heads c (hmem c hc).1).rel,fun a ha=>(hf.lits c (hmem c hc).1 a ha).rel⟩;have hr:=aQ (rk0:=Dh m.rels.length vals Fs rk lay) hneg hrel;have hcl:∀ i l,i<m.rels.length→¬ (derives (Bx m vals lay) (nv (Bx m vals lay) m.rels.length (Dh m.rels.length vals Fs rk lay) T) i l∧nv (Bx m vals lay) m.rels.length (Dh m.rels.length vals Fs rk lay) T i l=none):=fun i l hi hd=>by
  obtain ⟨r,hri⟩:∃ r,rs[i]?=some r:=⟨_,AB (by rw [h.len];exact hi)⟩;refine hx i r l hri ?_ (((hr T).2.2 i l hi).2 hd);obtain ⟨c,hc,e,ν,hν,_,ht⟩:=hd.1;have hfi:=hf.heads c (hmem c hc).1;obtain ⟨hv1,hv2⟩:=GT.1 hν;rw [GT,(h.rel i r hri).1,←ht,AY,hfi.len,e];refine ⟨rfl,fun x hxm=>?_⟩;obtain ⟨t,htm,rfl⟩:=AM.1 hxm;obtain ⟨t1,t2,t3⟩:=hfi.tms t htm;unfold Ia;split
  ·rw [Ad];cases hq:ν[t.num.toNat]? with
   | none=>simp
   | some y=>exact hv2 y (AE hq)
  ·omega
 refine ⟨T,fun t ht=>?_⟩;obtain ⟨u,rfl⟩:∃ u,t=T+u:=⟨t - T,by omega⟩;rw [e,(hr (T+1)).1,J1 hcl 1,J1 hcl u]
theorem ZA {m:Mean} {vals:List Nat} {rs:List BF} {ks:List CluX} (h:fD m vals rs) (hf:Dt m) (hst:Dr layG m.clauses vals) (hk:ks.map (·.c)=m.clauses.filter D7) {Fs:Nat→List Nat→Prop} {rk:Nat→List Nat→Option Nat} {b:Nat} {rk':Nat→List Nat→Option Nat} (hs:E9 rs Fs ks 0 rk b rk'):Ji m vals Fs rk b rk':=by
 induction hs with
 | refl=>exact .refl
 | step _ h2 ih=>exact .step ih (cM h hf hst hk h2)
theorem VG.lays {w:World} {z eb:Nat} {m:Mean} {bb:Nat} {B:SB} {S:ST} {gr cr:Nat} {rs:List BF} {tv mv:Value} {ka:Option Addr} {ks:List CluX} {kc:Nat} {vals:List Nat} {rk:Nat→List Nat→Option Nat} (h:VG w z eb m bb B S gr cr rs tv mv ka ks kc vals rk) (hf:Dt m):Ji m vals (Ew m.clauses) (fun _ _=>none) m.rels.length rk:=by
 have hr:fD m vals rs:=⟨h.eng.len,fun i r hi=>by
  have hil:=(AL.1 hi).1;obtain ⟨nm,cols,hc⟩:∃ nm cols,m.rels[i]?=some (nm,cols):=⟨_,_,AB (by rw [←h.eng.len];exact hil)⟩;obtain ⟨a,b,_⟩:=h.eng.rels i r nm cols hi hc
  exact ⟨by rw [a];simp [Mean.cols,hc],b⟩⟩
 have:=ZA hr hf h.stable h.eng.ksc h.steps;rw [h.eng.len] at this;exact this
theorem bR {n:Nat} {rk:Nat→List Nat→Option Nat}:∀ t,nv [] n rk t=rk
 | 0=>rfl
 | t+1=>by
  funext i l
  rw [Qd (fun ⟨c,hc,_⟩=>by simp at hc),bR t]
theorem XE.none {m:Mean} {vals:List Nat} {Fs:Nat→List Nat→Prop} {lay:Nat} {rk rk':Nat→List Nat→Option Nat} (h:XE m vals Fs lay rk rk') (h1:Bx m vals lay=[]) (h2:∀ i,i<m.rels.length→vals.getD i 0≠lay):rk' = rk:=by
 obtain ⟨T,hT⟩:=h;rw [hT T (AQ _),h1,bR];funext i
 unfold Dh;rw [if_neg (fun q=>h2 i q.1 q.2)]
theorem Zr {m:Mean} {vals:List Nat} {Fs:Nat→List Nat→Prop} {lay:Nat} {rk rk':Nat→List Nat→Option Nat} (h:XE m vals Fs lay rk rk') {e p l1 l2:Nat} (hr:Bx m vals lay=[Ie e p l1,IL e p l2]) (he:e≠p) (hp:p<m.rels.length) (hel:e<m.rels.length) (hve:vals.getD e 0=lay) (hvp:vals.getD p 0=lay) {E:Nat→Nat→Prop} (hE:∀ x y,x<8→y<8→(Fs e [x,y]↔E x y)) (h8:∀ x y,E x y→x<8∧y<8) (h0:∀ l,¬ Fs p l) {x y:Nat} (hx:x<8) (hy:y<8) (r:Nat):rk' p [x,y]=some r↔Nl E 8 r x y∧∀ q,q<r→¬ Nl E 8 q x y:=by
 obtain ⟨T,hT⟩:=h
 have key:=fun t=>XK (e:=e) (p:=p) (l1:=l1) (l2:=l2) (n:=m.rels.length) (rk:=Dh m.rels.length vals Fs rk lay) he hp (E:=E) (fun x y hx hy=>by
  unfold Dh;rw [if_pos ⟨hel,hve⟩];unfold Fk;rw [←hE x y hx hy];by_cases q:Fs e [x,y]
  ·rw [if_pos q];simp [q]
  ·rw [if_neg q];simp [q]) h8 (fun l=>by
  unfold Dh;rw [if_pos ⟨hp,hvp⟩];unfold Fk
  rw [if_neg (h0 l)]) t hx hy r
 rw [←hr] at key;constructor
 ·intro q;rw [hT T (AQ _)] at q;exact ((key T).1 q).2
 ·intro q;rw [hT (max T r) (Nat.le_max_left _ _)];exact (key (max T r)).2 ⟨Dv _ _,q⟩
def Ez:List Pc:=domP 3++Ja [101] .sp++Ja [112] .sp++jL (0,1)++jL (1,2)++QK .sp++Gk [112] (HI 88) (HI 90)++[.sp,.t .arrow,.sp]++Gk [112] (HI 88) (HI 89)++[.t .comma,.sp]++Gk [101] (HI 89) (HI 90)++[.t .dot]
def Jn:List Ac:=[⟨⟨0,[cT 0,cT 1]⟩,[],1⟩,⟨⟨0,[cT 1,cT 2]⟩,[],1⟩,Ie 0 1 1,IL 0 1 1]
def I2:Mean:=⟨[(ba [100],3)],[(ba [101],[0,0]),(ba [112],[0,0])],Jn⟩
def OE:List CM:=[.dom (dT 1) ⟨.int (GZ 3),1⟩,.rel ⟨.name (ba [101]),1⟩ [dT 1,dT 1],.rel ⟨.name (ba [112]),1⟩ [dT 1,dT 1],eI2 1 (0,1),eI2 1 (1,2),
 .clause (Zg [112] (vS 88) (vS 89) 1) [⟨Zg [101] (vS 88) (vS 89) 1,false⟩],
 .clause (Zg [112] (vS 88) (vS 90) 1) [⟨Zg [112] (vS 88) (vS 89) 1,false⟩,⟨Zg [101] (vS 89) (vS 90) 1,false⟩]]
theorem YF:JC Ez=true:=by rfl
theorem RB (us:List Tn):Br (Bc Ez 1++us) OE us:=by
 refine Br.trans (is:=[_]) (Br.one (us:=Bc (Ja [101] .sp++Ja [112] .sp++jL (0,1)++jL (1,2)++QK .sp++Gk [112] (HI 88) (HI 90)++[.sp,.t .arrow,.sp]++Gk [112] (HI 88) (HI 89)++[.t .comma,.sp]++Gk [101] (HI 89) (HI 90)++[.t .dot]) 1++us) rfl rfl) ?_;refine Br.trans (is:=[_]) (Br.one (us:=Bc (Ja [112] .sp++jL (0,1)++jL (1,2)++QK .sp++Gk [112] (HI 88) (HI 90)++[.sp,.t .arrow,.sp]++Gk [112] (HI 88) (HI 89)++[.t .comma,.sp]++Gk [101] (HI 89) (HI 90)++[.t .dot]) 1++us) rfl rfl) ?_;refine Br.trans (is:=[_]) (Br.one (us:=Bc (jL (0,1)++jL (1,2)++QK .sp++Gk [112] (HI 88) (HI 90)++[.sp,.t .arrow,.sp]++Gk [112] (HI 88) (HI 89)++[.t .comma,.sp]++Gk [101] (HI 89) (HI 90)++[.t .dot]) 1++us) rfl rfl) ?_;refine Br.trans (is:=[_]) (Br.one (us:=Bc (jL (1,2)++QK .sp++Gk [112] (HI 88) (HI 90)++[.sp,.t .arrow,.sp]++Gk [112] (HI 88) (HI 89)++[.t .comma,.sp]++Gk [101] (HI 89) (HI 90)++[.t .dot]) 1++us) rfl rfl) ?_;refine Br.trans (is:=[_]) (Br.one (us:=Bc (QK .sp++Gk [112] (HI 88) (HI 90)++[.sp,.t .arrow,.sp]++Gk [112] (HI 88) (HI 89)++[.t .comma,.sp]++Gk [101] (HI 89) (HI 90)++[.t .dot]) 1++us) rfl rfl) ?_;refine Br.trans (is:=[_]) (Br.one (us:=Bc (Gk [112] (HI 88) (HI 90)++[.sp,.t .arrow,.sp]++Gk [112] (HI 88) (HI 89)++[.t .comma,.sp]++Gk [101] (HI 89) (HI 90)++[.t .dot]) 1++us) rfl rfl) ?_;exact Br.one rfl rfl
theorem VO:∃ toks,Df (ba (Ae Ez))=.ok (toks,I2):=by
 have hs:=E2 Ez (Ae Ez).length 1 YF (AQ _);have hi:=RB [⟨.fin,C4 Ez 1⟩];refine ⟨B3 (Bc Ez 1) (C4 Ez 1),?_⟩;unfold Df;rw [if_neg (show ¬ 1200<(ba (Ae Ez)).size by show ¬ 1200<101;omega),C9,hs];dsimp only;have hl:(B3 (Bc Ez 1) (C4 Ez 1)).length=(62+1)+OE.length:=rfl;rw [hl];have e1:DO ((62+1)+OE.length) (B3 (Bc Ez 1) (C4 Ez 1))=.ok OE:=by
  unfold B3;rw [hi (62+1)];have e2:DO (62+1) [⟨.fin,C4 Ez 1⟩]=.ok []:=rfl;rw [e2];simp
 rw [e1];dsimp only;rw [show Bh E7 OE=.ok I2 from rfl];dsimp only;rw [show GI I2=.ok I2 from rfl]
def LG:List Pc:=[.t .dom,.sp,P0 [100],.sp,ZM 3,.t .semi,.sp,.t .dom,.sp,P0 [100],.sp,ZM 2,.t .semi]
theorem VU:Df (ba (Ae LG))=.error (7,1):=by
 have hs:=E2 LG (Ae LG).length 1 (by rfl) (AQ _);unfold Df;rw [if_neg (show ¬ 1200<(ba (Ae LG)).size by show ¬ 1200<17;omega),C9,hs];rfl
theorem QI {r x y:Nat} (h:Nl (fun a b=>(a,b)=(0,1)∨(a,b)=(1,2)) 8 r x y):(x=0∧y=1∧r=1)∨(x=1∧y=2∧r=1)∨(x=0∧y=2∧r=2):=by
 induction h with
 | one h=>
  rcases h with h | h
  ·cases h;exact .inl ⟨rfl,rfl,rfl⟩
  ·cases h;exact .inr (.inl ⟨rfl,rfl,rfl⟩)
 | cons h1 _ _ ih=>
  rcases h1 with h1 | h1
  ·cases h1;rcases ih with ⟨q,_⟩ | ⟨_,rfl,rfl⟩ | ⟨q,_⟩
   ·cases q
   ·exact .inr (.inr ⟨rfl,rfl,rfl⟩)
   ·cases q
  ·cases h1;rcases ih with ⟨q,_⟩ | ⟨q,_⟩ | ⟨q,_⟩ <;> cases q
theorem M7 {i:Nat} {l:List Nat}:Ew Jn i l↔i=0∧(l=[0,1]∨l=[1,2]):=by
 constructor
 ·rintro ⟨c,hc,hl,hr,ν,_,ht⟩;simp only [Jn,AG,A7,or_false] at hc;rcases hc with rfl | rfl | rfl | rfl
  ·exact ⟨hr.symm,.inl (by rw [←ht];rfl)⟩
  ·exact ⟨hr.symm,.inr (by rw [←ht];rfl)⟩
  ·cases hl
  ·cases hl
 ·rintro ⟨rfl,rfl | rfl⟩
  ·exact ⟨_,C2 ..,rfl,rfl,[0,0,0,0],X3 (by omega) (by omega) (by omega) (by omega),rfl⟩
  ·exact ⟨⟨⟨0,[cT 1,cT 2]⟩,[],1⟩,by simp [Jn],rfl,rfl,[0,0,0,0],X3 (by omega) (by omega) (by omega) (by omega),rfl⟩
theorem Sx {vals:List Nat} (hl:M6 Jn 2 vals) {rk:Nat→List Nat→Option Nat} (h:Ji I2 vals (Ew Jn) (fun _ _=>none) 2 rk):rk 1 [0,2]=some 2∧rk 1 [2,0]=none∧(DP 2).filter (fun l=>(rk 1 l).isSome)=[[0,1],[0,2],[1,2]]:=by
 have hst:Dr layG Jn [0,0]:=fun c hc l hl=>by
  simp only [Jn,AG,A7,or_false] at hc;rcases hc with rfl | rfl | rfl | rfl
  ·cases hl
  ·cases hl
  ·simp only [Ie,AG,A7,or_false] at hl;subst hl;rfl
  ·simp only [IL,AG,A7,or_false] at hl;rcases hl with rfl | rfl <;> rfl
 have h0:=hl.2.2 _ hst 0;have h1:=hl.2.2 _ hst 1;have v0:vals.getD 0 0=0:=by simp at h0;simp;omega
 have v1:vals.getD 1 0=0:=by simp at h1;simp;omega
 have hn:I2.rels.length=2:=rfl;have hR:∀ lay,Bx I2 vals lay=if lay=0 then [Ie 0 1 1,IL 0 1 1] else []:=fun lay=>by
  show ([Ie 0 1 1,IL 0 1 1]:List Ac).filter (fun c=>decide (vals.getD c.head.rel 0=lay))=_;simp only [CD,List.filter_nil];rw [show (Ie 0 1 1).head.rel=1 from rfl,show (IL 0 1 1).head.rel=1 from rfl,v1];by_cases e:lay=0
  ·subst e;rfl
  ·have:¬ (0=lay):=fun q=>e q.symm;simp [*]
 have key:∀ x y,x<8→y<8→∀ r,rk 1 [x,y]=some r↔(x=0∧y=1∧r=1)∨(x=1∧y=2∧r=1)∨(x=0∧y=2∧r=2):=by
  cases h with
  | step h1 s1=>cases h1 with
   | step h0 s0=>
    cases h0
    have e1:=s1.none (by rw [hR];rfl) (fun i hi=>by
     rw [hn] at hi;have:i=0∨i=1:=(by omega);rcases this with rfl | rfl
     ·rw [v0];decide
     ·rw [v1];decide)
    subst e1;intro x y hx hy r;have hw:=Zr s0 (by rw [hR];rfl) (by decide) (by decide) (by decide) v0 v1 (E:=fun a b=>(a,b)=(0,1)∨(a,b)=(1,2)) (fun a b _ _=>by rw [M7];simp) (fun a b q=>by rcases q with q | q <;> cases q <;> exact ⟨by omega,by omega⟩) (fun l q=>by cases (M7.1 q).1) hx hy r;rw [hw];constructor
    ·rintro ⟨a,_⟩;exact QI a
    ·have w1:Nl (fun a b=>(a,b)=(0,1)∨(a,b)=(1,2)) 8 1 0 1:=.one (.inl rfl);have w2:Nl (fun a b=>(a,b)=(0,1)∨(a,b)=(1,2)) 8 1 1 2:=.one (.inr rfl);rintro (⟨rfl,rfl,rfl⟩ | ⟨rfl,rfl,rfl⟩ | ⟨rfl,rfl,rfl⟩)
     ·exact ⟨w1,fun q hq hw=>by have:=hw.pos;omega⟩
     ·exact ⟨w2,fun q hq hw=>by have:=hw.pos;omega⟩
     ·exact ⟨w1.trans (by omega) w2,fun q hq hw=>by
       rcases QI hw with ⟨_,q,_⟩ | ⟨q,_⟩ | ⟨_,_,q⟩
       ·cases q
       ·cases q
       ·omega⟩
 refine ⟨(key 0 2 (by omega) (by omega) 2).2 (.inr (.inr ⟨rfl,rfl,rfl⟩)),?_,?_⟩
 ·cases hz:rk 1 [2,0] with
  | none=>rfl
  | some q=>rcases (key 2 0 (by omega) (by omega) q).1 hz with ⟨q,_⟩ | ⟨q,_⟩ | ⟨q,_⟩ <;> cases q
 ·have:(DP 2).filter (fun l=>(rk 1 l).isSome)=(DP 2).filter (fun l=>decide (l=[0,1]∨l=[0,2]∨l=[1,2])):=by
   apply List.filter_congr;intro l hl;obtain ⟨h1,h2⟩:=GT.1 hl;match l,h1 with
   | [x,y],_=>
    have hx:=h2 x (by simp);have hy:=h2 y (by simp);rw [Bg,decide_eq_true_eq,Bf];constructor
    ·rintro ⟨r,hr⟩;rcases (key x y hx hy r).1 hr with ⟨rfl,rfl,_⟩ | ⟨rfl,rfl,_⟩ | ⟨rfl,rfl,_⟩ <;> simp
    ·intro q;simp at q;rcases q with ⟨rfl,rfl⟩ | ⟨rfl,rfl⟩ | ⟨rfl,rfl⟩
     ·exact ⟨1,(key 0 1 hx hy 1).2 (.inl ⟨rfl,rfl,rfl⟩)⟩
     ·exact ⟨2,(key 0 2 hx hy 2).2 (.inr (.inr ⟨rfl,rfl,rfl⟩))⟩
     ·exact ⟨1,(key 1 2 hx hy 1).2 (.inr (.inl ⟨rfl,rfl,rfl⟩))⟩
  rw [this];decide
def Sr (cs:List Ac):Prop:=∀ c∈cs,∀ a∈c.lits,a.2=false
theorem SW {cs:List Ac} (hb:Sr cs) {rk rk':Nat→List Nat→Option Nat} (h:∀ i l,(rk i l).isSome=true→(rk' i l).isSome=true) {i:Nat} {l:List Nat} (hd:derives cs rk i l):derives cs rk' i l:=by
 obtain ⟨c,hc,e,ν,hν,hl,ht⟩:=hd;refine ⟨c,hc,e,ν,hν,fun a ha=>?_,ht⟩;have h1:=hl a ha;have h2:=hb c hc a ha;unfold FY at h1 ⊢;rw [h2] at h1 ⊢;simp only [BQ,if_false] at h1 ⊢;exact h _ _ h1
theorem lF {cs:List Ac} {n:Nat} {rk0:Nat→List Nat→Option Nat} (h0:∀ i l r,rk0 i l=some r→r=0):∀ (t i:Nat) (l:List Nat) (r:Nat),nv cs n rk0 t i l=some r→r≤t
 | 0,i,l,r,h=>by have:=h0 i l r h;omega
 | t+1,i,l,r,h=>by
  simp only [nv] at h;split at h
  ·cases h;omega
  ·have:=lF h0 t i l r h;omega
theorem Xh {cs:List Ac} (hb:Sr cs) {n:Nat} {rk0 rk0':Nat→List Nat→Option Nat} (h0:∀ i l r,rk0 i l=some r→r=0) (h0':∀ i l r,rk0' i l=some r→r=0) (h:∀ i l,(rk0 i l).isSome=true→(rk0' i l).isSome=true):∀ (t i:Nat) (l:List Nat) (r:Nat),nv cs n rk0 t i l=some r→∃ r',r'≤r∧nv cs n rk0' t i l=some r'
 | 0,i,l,r,hr=>by
  have h1:=h i l (by show (nv cs n rk0 0 i l).isSome=true;rw [hr];rfl);obtain ⟨r',e⟩:=Bf.1 h1;exact ⟨r',by have:=h0' i l r' e;omega,e⟩
 | t+1,i,l,r,hr=>by
  have ih:=Xh (n:=n) hb h0 h0' h t;have up:∀ i l,(nv cs n rk0 t i l).isSome=true→(nv cs n rk0' t i l).isSome=true:=fun i l hs=>by
   obtain ⟨x,hx⟩:=Bf.1 hs;obtain ⟨y,_,hy⟩:=ih i l x hx;rw [hy];rfl
  cases hq:nv cs n rk0' t i l with
  | some q=>
   have e:nv cs n rk0' (t+1) i l=some q:=by
    rw [←hq];exact JD (by rw [hq];simp)
   refine ⟨q,?_,e⟩;simp only [nv] at hr;split at hr
   ·cases hr;have:=lF h0' t i l q hq;omega
   ·obtain ⟨r',h1,h2⟩:=ih i l r hr;rw [hq] at h2;cases h2;exact h1
  | none=>
   simp only [nv] at hr;split at hr
   ·rename_i hc;cases hr;refine ⟨t+1,AQ _,?_⟩;simp only [nv];rw [if_pos ⟨hc.1,hq,SW hb up hc.2.2⟩]
   ·obtain ⟨r',h1,h2⟩:=ih i l r hr;rw [hq] at h2;cases h2
end
end Go.Proofs.YtgjomknpjigkhaaGreatDoor
