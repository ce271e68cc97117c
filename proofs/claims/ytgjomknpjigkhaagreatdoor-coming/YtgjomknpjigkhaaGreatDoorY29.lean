import Derived.Test.YtgjomknpjigkhaaGreatDoorY28
namespace Go.Proofs.YtgjomknpjigkhaaGreatDoor
set_option maxRecDepth 100000
set_option maxHeartbeats 4000000
section
open Go.RowKit
def CD (m:Mean) (vals:List Nat) (lay:Nat):List Ae:=(m.clauses.filter C0).filter (fun c=>decide (vals.getD c.head.rel 0=lay))
noncomputable def Dr (n:Nat) (vals:List Nat) (Fs:Nat→List Nat→Prop) (rk:Nat→List Nat→Option Nat) (lay:Nat):Nat→List Nat→Option Nat:=fun i=>if i<n∧vals.getD i 0=lay then Fw (fun _=>none) (Fs i) 0 else rk i
def XW (m:Mean) (vals:List Nat) (Fs:Nat→List Nat→Prop) (lay:Nat) (rk rk':Nat→List Nat→Option Nat):Prop:=∃ T,∀ t,T≤t→rk' = nv (CD m vals lay) m.rels.length (Dr m.rels.length vals Fs rk lay) t
inductive Jv (m:Mean) (vals:List Nat) (Fs:Nat→List Nat→Prop) (rk:Nat→List Nat→Option Nat):Nat→(Nat→List Nat→Option Nat)→Prop
 | refl:Jv m vals Fs rk 0 rk
 | step {b:Nat} {rk1 rk2:Nat→List Nat→Option Nat}:Jv m vals Fs rk b rk1→XW m vals Fs b rk1 rk2→Jv m vals Fs rk (b+1) rk2
theorem Nl {α β:Type} {f:α→β} {p:α→Bool} {q:β→Bool}:∀ (l:List α),(∀ a∈l,p a=q (f a))→(l.filter p).map f=(l.map f).filter q
 | [],_=>rfl
 | a :: l,h=>by
  have ih:=Nl l (fun b hb=>h b (by simp [hb]));rw [A0,CC,CC,h a (by simp)];split
  ·rw [A0,ih]
  ·exact ih
structure XU (m:Mean) (vals:List Nat) (rs:List A9):Prop where
 len:rs.length=m.rels.length
 rel:∀ (i:Nat) (r:A9),rs[i]?=some r→r.n=(m.cols i).length∧r.layer=vals.getD i 0
theorem XU.lay {m:Mean} {vals:List Nat} {rs:List A9} (h:XU m vals rs) {i:Nat} (hi:i<m.rels.length):GB rs i=vals.getD i 0:=by
 obtain ⟨r,hr⟩:∃ r,rs[i]?=some r:=⟨_,AB (by rw [h.len];exact hi)⟩;unfold GB;rw [hr];exact (h.rel i r hr).2
theorem Un {m:Mean} {vals:List Nat} {rs:List A9} {ks:List CluX} (h:XU m vals rs) (hf:DI m) (hst:DT layG m.clauses vals) (hk:ks.map (·.c)=m.clauses.filter C0) {Fs:Nat→List Nat→Prop} {lay:Nat} {rk rk':Nat→List Nat→Option Nat} (hs:Md rs Fs ks lay rk rk'):XW m vals Fs lay rk rk':=by
 have hcm:∀ k∈ks,k.c∈m.clauses:=fun k hkm=>by
  have:k.c∈m.clauses.filter C0:=by rw [←hk];exact AR.2 ⟨k,hkm,rfl⟩
  exact (Ap.1 this).1
 have ecs:(ks.filter (FO rs lay)).map (·.c)=CD m vals lay:=by
  unfold CD;rw [←hk];refine Nl ks (fun k hkm=>?_);unfold FO;rw [h.lay (hf.heads _ (hcm k hkm)).rel]
 have elv:D4 rs Fs rk lay rs.length=Dr m.rels.length vals Fs rk lay:=by
  funext i
  unfold D4 Dr;rw [h.len];by_cases hi:i<m.rels.length
  ·rw [h.lay hi]
  ·rw [if_neg (fun q=>hi q.1),if_neg (fun q=>hi q.1)]
 unfold Md at hs;rw [ecs,elv,h.len] at hs;obtain ⟨T,e,hx⟩:=hs;have hmem:∀ c∈CD m vals lay,c∈m.clauses∧vals.getD c.head.rel 0=lay:=fun c hc=>by
  unfold CD at hc;obtain ⟨h1,h2⟩:=Ap.1 hc;exact ⟨(Ap.1 h1).1,by simpa using h2⟩
 have hneg:fO (CD m vals lay):=fun c hc a ha h2 d hd e=>by
  obtain ⟨c1,c2⟩:=hmem c hc;obtain ⟨d1,d2⟩:=hmem d hd;have q:max (vals.getD c.head.rel 0) (vals.getD a.1.rel 0+(if a.2 then 1 else 0))=vals.getD c.head.rel 0:=hst c c1 a ha;rw [h2,if_pos rfl,←e,c2,d2] at q;omega
 have hrel:fM (CD m vals lay) m.rels.length:=fun c hc=>⟨(hf.heads c (hmem c hc).1).rel,fun a ha=>(hf.lits c (hmem c hc).1 a ha).rel⟩;have hr:=bF (rk0:=Dr m.rels.length vals Fs rk lay) hneg hrel;have hcl:∀ i l,i<m.rels.length→¬ (C1 (CD m vals lay) (nv (CD m vals lay) m.rels.length (Dr m.rels.length vals Fs rk lay) T) i l∧nv (CD m vals lay) m.rels.length (Dr m.rels.length vals Fs rk lay) T i l=none):=fun i l hi hd=>by
  obtain ⟨r,hri⟩:∃ r,rs[i]?=some r:=⟨_,AB (by rw [h.len];exact hi)⟩;refine hx i r l hri ?_ (((hr T).2.2 i l hi).2 hd);obtain ⟨c,hc,e,ν,hν,_,ht⟩:=hd.1;have hfi:=hf.heads c (hmem c hc).1;obtain ⟨hv1,hv2⟩:=FH.1 hν;rw [FH,(h.rel i r hri).1,←ht,AZ,hfi.len,e];refine ⟨rfl,fun x hxm=>?_⟩;obtain ⟨t,htm,rfl⟩:=AR.1 hxm;obtain ⟨t1,t2,t3⟩:=hfi.tms t htm;unfold Jx;split
  ·rw [Af];cases hq:ν[t.num.toNat]? with
   | none=>simp
   | some y=>exact hv2 y (AF hq)
  ·omega
 refine ⟨T,fun t ht=>?_⟩;obtain ⟨u,rfl⟩:∃ u,t=T+u:=⟨t - T,by omega⟩;rw [e,(hr (T+1)).1,KP hcl 1,KP hcl u]
theorem ZN {m:Mean} {vals:List Nat} {rs:List A9} {ks:List CluX} (h:XU m vals rs) (hf:DI m) (hst:DT layG m.clauses vals) (hk:ks.map (·.c)=m.clauses.filter C0) {Fs:Nat→List Nat→Prop} {rk:Nat→List Nat→Option Nat} {b:Nat} {rk':Nat→List Nat→Option Nat} (hs:EL rs Fs ks 0 rk b rk'):Jv m vals Fs rk b rk':=by
 induction hs with
 | refl=>exact .refl
 | step _ h2 ih=>exact .step ih (Un h hf hst hk h2)
theorem VX.lays {w:World} {z eb:Nat} {m:Mean} {bb:Nat} {B:SB} {S:ST} {gr cr:Nat} {rs:List A9} {tv mv:Value} {ka:Option Addr} {ks:List CluX} {kc:Nat} {vals:List Nat} {rk:Nat→List Nat→Option Nat} (h:VX w z eb m bb B S gr cr rs tv mv ka ks kc vals rk) (hf:DI m):Jv m vals (E6 m.clauses) (fun _ _=>none) m.rels.length rk:=by
 have hr:XU m vals rs:=⟨h.eng.len,fun i r hi=>by
  have hil:=(AL.1 hi).1;obtain ⟨nm,cols,hc⟩:∃ nm cols,m.rels[i]?=some (nm,cols):=⟨_,_,AB (by rw [←h.eng.len];exact hil)⟩;obtain ⟨a,b,_⟩:=h.eng.rels i r nm cols hi hc
  exact ⟨by rw [a];simp [Mean.cols,hc],b⟩⟩
 have:=ZN hr hf h.stable h.eng.ksc h.steps;rw [h.eng.len] at this;exact this
def TL (cs:List Ae):Prop:=∀ c∈cs,∀ a∈c.lits,a.2=false
theorem Sn {cs:List Ae} (hb:TL cs) {rk rk':Nat→List Nat→Option Nat} (h:∀ i l,(rk i l).isSome=true→(rk' i l).isSome=true) {i:Nat} {l:List Nat} (hd:C1 cs rk i l):C1 cs rk' i l:=by
 obtain ⟨c,hc,e,ν,hν,hl,ht⟩:=hd;refine ⟨c,hc,e,ν,hν,fun a ha=>?_,ht⟩;have h1:=hl a ha;have h2:=hb c hc a ha;unfold Gb at h1 ⊢;rw [h2] at h1 ⊢;simp only [BT,if_false] at h1 ⊢;exact h _ _ h1
theorem lR {cs:List Ae} {n:Nat} {rk0:Nat→List Nat→Option Nat} (h0:∀ i l r,rk0 i l=some r→r=0):∀ (t i:Nat) (l:List Nat) (r:Nat),nv cs n rk0 t i l=some r→r≤t
 | 0,i,l,r,h=>by have:=h0 i l r h;omega
 | t+1,i,l,r,h=>by
  simp only [nv] at h;split at h
  ·cases h;omega
  ·have:=lR h0 t i l r h;omega
theorem Xv {cs:List Ae} (hb:TL cs) {n:Nat} {rk0 rk0':Nat→List Nat→Option Nat} (h0:∀ i l r,rk0 i l=some r→r=0) (h0':∀ i l r,rk0' i l=some r→r=0) (h:∀ i l,(rk0 i l).isSome=true→(rk0' i l).isSome=true):∀ (t i:Nat) (l:List Nat) (r:Nat),nv cs n rk0 t i l=some r→∃ r',r'≤r∧nv cs n rk0' t i l=some r'
 | 0,i,l,r,hr=>by
  have h1:=h i l (by show (nv cs n rk0 0 i l).isSome=true;rw [hr];rfl);obtain ⟨r',e⟩:=Bl.1 h1;exact ⟨r',by have:=h0' i l r' e;omega,e⟩
 | t+1,i,l,r,hr=>by
  have ih:=Xv (n:=n) hb h0 h0' h t;have up:∀ i l,(nv cs n rk0 t i l).isSome=true→(nv cs n rk0' t i l).isSome=true:=fun i l hs=>by
   obtain ⟨x,hx⟩:=Bl.1 hs;obtain ⟨y,_,hy⟩:=ih i l x hx;rw [hy];rfl
  cases hq:nv cs n rk0' t i l with
  | some q=>
   have e:nv cs n rk0' (t+1) i l=some q:=by
    rw [←hq];exact JQ (by rw [hq];simp)
   refine ⟨q,?_,e⟩;simp only [nv] at hr;split at hr
   ·cases hr;have:=lR h0' t i l q hq;omega
   ·obtain ⟨r',h1,h2⟩:=ih i l r hr;rw [hq] at h2;cases h2;exact h1
  | none=>
   simp only [nv] at hr;split at hr
   ·rename_i hc;cases hr;refine ⟨t+1,AS _,?_⟩;simp only [nv];rw [if_pos ⟨hc.1,hq,Sn hb up hc.2.2⟩]
   ·obtain ⟨r',h1,h2⟩:=ih i l r hr;rw [hq] at h2;cases h2
theorem cB {n:Nat} {rk:Nat→List Nat→Option Nat}:∀ t,nv [] n rk t=rk
 | 0=>rfl
 | t+1=>by
  funext i l
  rw [Qw (fun ⟨c,hc,_⟩=>by simp at hc),cB t]
theorem XW.none {m:Mean} {vals:List Nat} {Fs:Nat→List Nat→Prop} {lay:Nat} {rk rk':Nat→List Nat→Option Nat} (h:XW m vals Fs lay rk rk') (h1:CD m vals lay=[]) (h2:∀ i,i<m.rels.length→vals.getD i 0≠lay):rk' = rk:=by
 obtain ⟨T,hT⟩:=h;rw [hT T (AS _),h1,cB];funext i
 unfold Dr;rw [if_neg (fun q=>h2 i q.1 q.2)]
theorem Z3 {m:Mean} {vals:List Nat} {Fs:Nat→List Nat→Prop} {lay:Nat} {rk rk':Nat→List Nat→Option Nat} (h:XW m vals Fs lay rk rk') {e p l1 l2:Nat} (hr:CD m vals lay=[Ir e p l1,Ic e p l2]) (he:e≠p) (hp:p<m.rels.length) (hel:e<m.rels.length) (hve:vals.getD e 0=lay) (hvp:vals.getD p 0=lay) {E:Nat→Nat→Prop} (hE:∀ x y,x<8→y<8→(Fs e [x,y]↔E x y)) (h8:∀ x y,E x y→x<8∧y<8) (h0:∀ l,¬ Fs p l) {x y:Nat} (hx:x<8) (hy:y<8) (r:Nat):rk' p [x,y]=some r↔Nu E 8 r x y∧∀ q,q<r→¬ Nu E 8 q x y:=by
 obtain ⟨T,hT⟩:=h
 have key:=fun t=>Xb (e:=e) (p:=p) (l1:=l1) (l2:=l2) (n:=m.rels.length) (rk:=Dr m.rels.length vals Fs rk lay) he hp (E:=E) (fun x y hx hy=>by
  unfold Dr;rw [if_pos ⟨hel,hve⟩];unfold Fw;rw [←hE x y hx hy];by_cases q:Fs e [x,y]
  ·rw [if_pos q];simp [q]
  ·rw [if_neg q];simp [q]) h8 (fun l=>by
  unfold Dr;rw [if_pos ⟨hp,hvp⟩];unfold Fw
  rw [if_neg (h0 l)]) t hx hy r
 rw [←hr] at key;constructor
 ·intro q;rw [hT T (AS _)] at q;exact ((key T).1 q).2
 ·intro q;rw [hT (max T r) (Nat.le_max_left _ _)];exact (key (max T r)).2 ⟨Dv _ _,q⟩
def E9:List Pc:=domP 3++Jo [101] .sp++Jo [112] .sp++jR (0,1)++jR (1,2)++Qg .sp++Gv [112] (H6 88) (H6 90)++[.sp,.t .arrow,.sp]++Gv [112] (H6 88) (H6 89)++[.t .comma,.sp]++Gv [101] (H6 89) (H6 90)++[.t .dot]
def J6:List Ae:=[⟨⟨0,[cT 0,cT 1]⟩,[],1⟩,⟨⟨0,[cT 1,cT 2]⟩,[],1⟩,Ir 0 1 1,Ic 0 1 1]
def JF:Mean:=⟨[(ba [100],3)],[(ba [101],[0,0]),(ba [112],[0,0])],J6⟩
def OK:List CO:=[.dom (dT 1) ⟨.int (Gu 3),1⟩,.rel ⟨.name (ba [101]),1⟩ [dT 1,dT 1],.rel ⟨.name (ba [112]),1⟩ [dT 1,dT 1],eI2 1 (0,1),eI2 1 (1,2),
 .clause (Zv [112] (vS 88) (vS 89) 1) [⟨Zv [101] (vS 88) (vS 89) 1,false⟩],
 .clause (Zv [112] (vS 88) (vS 90) 1) [⟨Zv [112] (vS 88) (vS 89) 1,false⟩,⟨Zv [101] (vS 89) (vS 90) 1,false⟩]]
theorem YS:JP E9=true:=by rfl
theorem RV (us:List Tn):Bz (Bq E9 1++us) OK us:=by
 refine Bz.trans (is:=[_]) (Bz.one (us:=Bq (Jo [101] .sp++Jo [112] .sp++jR (0,1)++jR (1,2)++Qg .sp++Gv [112] (H6 88) (H6 90)++[.sp,.t .arrow,.sp]++Gv [112] (H6 88) (H6 89)++[.t .comma,.sp]++Gv [101] (H6 89) (H6 90)++[.t .dot]) 1++us) rfl rfl) ?_;refine Bz.trans (is:=[_]) (Bz.one (us:=Bq (Jo [112] .sp++jR (0,1)++jR (1,2)++Qg .sp++Gv [112] (H6 88) (H6 90)++[.sp,.t .arrow,.sp]++Gv [112] (H6 88) (H6 89)++[.t .comma,.sp]++Gv [101] (H6 89) (H6 90)++[.t .dot]) 1++us) rfl rfl) ?_;refine Bz.trans (is:=[_]) (Bz.one (us:=Bq (jR (0,1)++jR (1,2)++Qg .sp++Gv [112] (H6 88) (H6 90)++[.sp,.t .arrow,.sp]++Gv [112] (H6 88) (H6 89)++[.t .comma,.sp]++Gv [101] (H6 89) (H6 90)++[.t .dot]) 1++us) rfl rfl) ?_;refine Bz.trans (is:=[_]) (Bz.one (us:=Bq (jR (1,2)++Qg .sp++Gv [112] (H6 88) (H6 90)++[.sp,.t .arrow,.sp]++Gv [112] (H6 88) (H6 89)++[.t .comma,.sp]++Gv [101] (H6 89) (H6 90)++[.t .dot]) 1++us) rfl rfl) ?_;refine Bz.trans (is:=[_]) (Bz.one (us:=Bq (Qg .sp++Gv [112] (H6 88) (H6 90)++[.sp,.t .arrow,.sp]++Gv [112] (H6 88) (H6 89)++[.t .comma,.sp]++Gv [101] (H6 89) (H6 90)++[.t .dot]) 1++us) rfl rfl) ?_;refine Bz.trans (is:=[_]) (Bz.one (us:=Bq (Gv [112] (H6 88) (H6 90)++[.sp,.t .arrow,.sp]++Gv [112] (H6 88) (H6 89)++[.t .comma,.sp]++Gv [101] (H6 89) (H6 90)++[.t .dot]) 1++us) rfl rfl) ?_;exact Bz.one rfl rfl
theorem Ve:∃ toks,EE (ba (Ah E9))=.ok (toks,JF):=by
 have hs:=Fl E9 (Ah E9).length 1 YS (AS _);have hi:=RV [⟨.fin,De E9 1⟩];refine ⟨CY (Bq E9 1) (De E9 1),?_⟩;unfold EE;rw [if_neg (show ¬ 1200<(ba (Ah E9)).size by show ¬ 1200<101;omega),D5,hs];dsimp only;have hl:(CY (Bq E9 1) (De E9 1)).length=(62+1)+OK.length:=rfl;rw [hl];have e1:Dd ((62+1)+OK.length) (CY (Bq E9 1) (De E9 1))=.ok OK:=by
  unfold CY;rw [hi (62+1)];have e2:Dd (62+1) [⟨.fin,De E9 1⟩]=.ok []:=rfl;rw [e2];simp
 rw [e1];dsimp only;rw [show CN GF OK=.ok JF from rfl];dsimp only;rw [show Mz JF=.ok JF from rfl]
def LY:List Pc:=[.t .dom,.sp,QC [100],.sp,ZX 3,.t .semi,.sp,.t .dom,.sp,QC [100],.sp,ZX 2,.t .semi]
theorem Vh:EE (ba (Ah LY))=.error (7,1):=by
 have hs:=Fl LY (Ah LY).length 1 (by rfl) (AS _);unfold EE;rw [if_neg (show ¬ 1200<(ba (Ah LY)).size by show ¬ 1200<17;omega),D5,hs];rfl
theorem Qe {r x y:Nat} (h:Nu (fun a b=>(a,b)=(0,1)∨(a,b)=(1,2)) 8 r x y):(x=0∧y=1∧r=1)∨(x=1∧y=2∧r=1)∨(x=0∧y=2∧r=2):=by
 induction h with
 | one h=>
  rcases h with h | h
  ·cases h;exact .inl ⟨rfl,rfl,rfl⟩
  ·cases h;exact .inr (.inl ⟨rfl,rfl,rfl⟩)
 | cons h1 _ _ ih=>
  rcases h1 with h1 | h1
  ·cases h1;rcases ih with ⟨q,_⟩ | ⟨_,rfl,rfl⟩ | ⟨q,_⟩
   ·cases q
   ·exact .inr (.inr ⟨rfl,rfl,rfl⟩)
   ·cases q
  ·cases h1;rcases ih with ⟨q,_⟩ | ⟨q,_⟩ | ⟨q,_⟩ <;> cases q
theorem NJ {i:Nat} {l:List Nat}:E6 J6 i l↔i=0∧(l=[0,1]∨l=[1,2]):=by
 constructor
 ·rintro ⟨c,hc,hl,hr,ν,_,ht⟩;simp only [J6,AJ,BA,or_false] at hc;rcases hc with rfl | rfl | rfl | rfl
  ·exact ⟨hr.symm,.inl (by rw [←ht];rfl)⟩
  ·exact ⟨hr.symm,.inr (by rw [←ht];rfl)⟩
  ·cases hl
  ·cases hl
 ·rintro ⟨rfl,rfl | rfl⟩
  ·exact ⟨_,CK ..,rfl,rfl,[0,0,0,0],YG (by omega) (by omega) (by omega) (by omega),rfl⟩
  ·exact ⟨⟨⟨0,[cT 1,cT 2]⟩,[],1⟩,by simp [J6],rfl,rfl,[0,0,0,0],YG (by omega) (by omega) (by omega) (by omega),rfl⟩
theorem TV {vals:List Nat} (hl:L0 J6 2 vals) {rk:Nat→List Nat→Option Nat} (h:Jv JF vals (E6 J6) (fun _ _=>none) 2 rk):rk 1 [0,2]=some 2∧rk 1 [2,0]=none∧(C7 2).filter (fun l=>(rk 1 l).isSome)=[[0,1],[0,2],[1,2]]:=by
 have hst:DT layG J6 [0,0]:=fun c hc l hl=>by
  simp only [J6,AJ,BA,or_false] at hc;rcases hc with rfl | rfl | rfl | rfl
  ·cases hl
  ·cases hl
  ·simp only [Ir,AJ,BA,or_false] at hl;subst hl;rfl
  ·simp only [Ic,AJ,BA,or_false] at hl;rcases hl with rfl | rfl <;> rfl
 have h0:=hl.2.2 _ hst 0;have h1:=hl.2.2 _ hst 1;have v0:vals.getD 0 0=0:=by simp at h0;simp;omega
 have v1:vals.getD 1 0=0:=by simp at h1;simp;omega
 have hn:JF.rels.length=2:=rfl;have hR:∀ lay,CD JF vals lay=if lay=0 then [Ir 0 1 1,Ic 0 1 1] else []:=fun lay=>by
  show ([Ir 0 1 1,Ic 0 1 1]:List Ae).filter (fun c=>decide (vals.getD c.head.rel 0=lay))=_;simp only [CC,List.filter_nil];rw [show (Ir 0 1 1).head.rel=1 from rfl,show (Ic 0 1 1).head.rel=1 from rfl,v1];by_cases e:lay=0
  ·subst e;rfl
  ·have:¬ (0=lay):=fun q=>e q.symm;simp [*]
 have key:∀ x y,x<8→y<8→∀ r,rk 1 [x,y]=some r↔(x=0∧y=1∧r=1)∨(x=1∧y=2∧r=1)∨(x=0∧y=2∧r=2):=by
  cases h with
  | step h1 s1=>cases h1 with
   | step h0 s0=>
    cases h0
    have e1:=s1.none (by rw [hR];rfl) (fun i hi=>by
     rw [hn] at hi;have:i=0∨i=1:=(by omega);rcases this with rfl | rfl
     ·rw [v0];decide
     ·rw [v1];decide)
    subst e1;intro x y hx hy r;have hw:=Z3 s0 (by rw [hR];rfl) (by decide) (by decide) (by decide) v0 v1 (E:=fun a b=>(a,b)=(0,1)∨(a,b)=(1,2)) (fun a b _ _=>by rw [NJ];simp) (fun a b q=>by rcases q with q | q <;> cases q <;> exact ⟨by omega,by omega⟩) (fun l q=>by cases (NJ.1 q).1) hx hy r;rw [hw];constructor
    ·rintro ⟨a,_⟩;exact Qe a
    ·have w1:Nu (fun a b=>(a,b)=(0,1)∨(a,b)=(1,2)) 8 1 0 1:=.one (.inl rfl);have w2:Nu (fun a b=>(a,b)=(0,1)∨(a,b)=(1,2)) 8 1 1 2:=.one (.inr rfl);rintro (⟨rfl,rfl,rfl⟩ | ⟨rfl,rfl,rfl⟩ | ⟨rfl,rfl,rfl⟩)
     ·exact ⟨w1,fun q hq hw=>by have:=hw.pos;omega⟩
     ·exact ⟨w2,fun q hq hw=>by have:=hw.pos;omega⟩
     ·exact ⟨w1.trans (by omega) w2,fun q hq hw=>by
       rcases Qe hw with ⟨_,q,_⟩ | ⟨q,_⟩ | ⟨_,_,q⟩
       ·cases q
       ·cases q
       ·omega⟩
 refine ⟨(key 0 2 (by omega) (by omega) 2).2 (.inr (.inr ⟨rfl,rfl,rfl⟩)),?_,?_⟩
 ·cases hz:rk 1 [2,0] with
  | none=>rfl
  | some q=>rcases (key 2 0 (by omega) (by omega) q).1 hz with ⟨q,_⟩ | ⟨q,_⟩ | ⟨q,_⟩ <;> cases q
 ·have:(C7 2).filter (fun l=>(rk 1 l).isSome)=(C7 2).filter (fun l=>decide (l=[0,1]∨l=[0,2]∨l=[1,2])):=by
   apply Dn;intro l hl;obtain ⟨h1,h2⟩:=FH.1 hl;match l,h1 with
   | [x,y],_=>
    have hx:=h2 x (by simp);have hy:=h2 y (by simp);rw [Bn,decide_eq_true_eq,Bl];constructor
    ·rintro ⟨r,hr⟩;rcases (key x y hx hy r).1 hr with ⟨rfl,rfl,_⟩ | ⟨rfl,rfl,_⟩ | ⟨rfl,rfl,_⟩ <;> simp
    ·intro q;simp at q;rcases q with ⟨rfl,rfl⟩ | ⟨rfl,rfl⟩ | ⟨rfl,rfl⟩
     ·exact ⟨1,(key 0 1 hx hy 1).2 (.inl ⟨rfl,rfl,rfl⟩)⟩
     ·exact ⟨2,(key 0 2 hx hy 2).2 (.inr (.inr ⟨rfl,rfl,rfl⟩))⟩
     ·exact ⟨1,(key 1 2 hx hy 1).2 (.inr (.inl ⟨rfl,rfl,rfl⟩))⟩
  rw [this];decide
end
end Go.Proofs.YtgjomknpjigkhaaGreatDoor
