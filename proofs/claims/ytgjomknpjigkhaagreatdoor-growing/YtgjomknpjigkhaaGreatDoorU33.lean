import Derived.Test.YtgjomknpjigkhaaGreatDoorU32
import Derived.Test.YtgjomknpjigkhaaGreatDoorU30
namespace Go.Proofs.YtgjomknpjigkhaaGreatDoor
set_option maxRecDepth 100000
set_option maxHeartbeats 4000000
section
open Go.RowKit
def aQG (m:Mean) (vals:List Nat) (lay:Nat):List iQA:=(m.clauses.filter fQD).filter (fun c=>decide (vals.getD c.head.rel 0=lay))
noncomputable def oQH (n:Nat) (vals:List Nat) (Fs:Nat→List Nat→Prop) (rk:Nat→List Nat→Option Nat) (lay:Nat):Nat→List Nat→Option Nat:=fun i=>if i<n∧vals.getD i 0=lay then fQJ (fun _=>none) (Fs i) 0 else rk i
def LayP (m:Mean) (vals:List Nat) (Fs:Nat→List Nat→Prop) (lay:Nat) (rk rk':Nat→List Nat→Option Nat):Prop:=∃ T,∀ t,T≤t→rk' = nv (aQG m vals lay) m.rels.length (oQH m.rels.length vals Fs rk lay) t
inductive LaysP (m:Mean) (vals:List Nat) (Fs:Nat→List Nat→Prop) (rk:Nat→List Nat→Option Nat):Nat→(Nat→List Nat→Option Nat)→Prop
 | refl:LaysP m vals Fs rk 0 rk
 | step {b:Nat} {rk1 rk2:Nat→List Nat→Option Nat}:LaysP m vals Fs rk b rk1→LayP m vals Fs b rk1 rk2→LaysP m vals Fs rk (b+1) rk2
theorem filter_mapE {α β:Type} {f:α→β} {p:α→Bool} {q:β→Bool}:∀ (l:List α),(∀ a∈l,p a=q (f a))→(l.filter p).map f=(l.map f).filter q
 | [],_=>rfl
 | a :: l,h=>by
  have ih:=filter_mapE l (fun b hb=>h b (by simp [hb]));rw [List.map_cons,List.filter_cons,List.filter_cons,h a (by simp)];split
  ·rw [List.map_cons,ih]
  ·exact ih
structure RsOk (m:Mean) (vals:List Nat) (rs:List RelX):Prop where
 len:rs.length=m.rels.length
 rel:∀ (i:Nat) (r:RelX),rs[i]?=some r→r.n=(m.cols i).length∧r.layer=vals.getD i 0
theorem RsOk.lay {m:Mean} {vals:List Nat} {rs:List RelX} (h:RsOk m vals rs) {i:Nat} (hi:i<m.rels.length):rQI rs i=vals.getD i 0:=by
 obtain ⟨r,hr⟩:∃ r,rs[i]?=some r:=⟨_,List.getElem?_eq_getElem (by rw [h.len];exact hi)⟩;unfold rQI;rw [hr];exact (h.rel i r hr).2
theorem lay_pure {m:Mean} {vals:List Nat} {rs:List RelX} {ks:List CluX} (h:RsOk m vals rs) (hf:oQD m) (hst:rQE layG m.clauses vals) (hk:ks.map (·.c)=m.clauses.filter fQD) {Fs:Nat→List Nat→Prop} {lay:Nat} {rk rk':Nat→List Nat→Option Nat} (hs:LayStep rs Fs ks lay rk rk'):LayP m vals Fs lay rk rk':=by
 have hcm:∀ k∈ks,k.c∈m.clauses:=fun k hkm=>by
  have:k.c∈m.clauses.filter fQD:=by rw [←hk];exact List.mem_map.2 ⟨k,hkm,rfl⟩
  exact (List.mem_filter.1 this).1
 have ecs:(ks.filter (iQH rs lay)).map (·.c)=aQG m vals lay:=by
  unfold aQG;rw [←hk];refine filter_mapE ks (fun k hkm=>?_);unfold iQH;rw [h.lay (hf.heads _ (hcm k hkm)).rel]
 have elv:dQD rs Fs rk lay rs.length=oQH m.rels.length vals Fs rk lay:=by
  funext i
  unfold dQD oQH;rw [h.len];by_cases hi:i<m.rels.length
  ·rw [h.lay hi]
  ·rw [if_neg (fun q=>hi q.1),if_neg (fun q=>hi q.1)]
 unfold LayStep at hs;rw [ecs,elv,h.len] at hs;obtain ⟨T,e,hx⟩:=hs;have hmem:∀ c∈aQG m vals lay,c∈m.clauses∧vals.getD c.head.rel 0=lay:=fun c hc=>by
  unfold aQG at hc;obtain ⟨h1,h2⟩:=List.mem_filter.1 hc;exact ⟨(List.mem_filter.1 h1).1,by simpa using h2⟩
 have hneg:NegOk (aQG m vals lay):=fun c hc a ha h2 d hd e=>by
  obtain ⟨c1,c2⟩:=hmem c hc;obtain ⟨d1,d2⟩:=hmem d hd;have q:max (vals.getD c.head.rel 0) (vals.getD a.1.rel 0+(if a.2 then 1 else 0))=vals.getD c.head.rel 0:=hst c c1 a ha;rw [h2,if_pos rfl,←e,c2,d2] at q;omega
 have hrel:RelOk (aQG m vals lay) m.rels.length:=fun c hc=>⟨(hf.heads c (hmem c hc).1).rel,fun a ha=>(hf.lits c (hmem c hc).1 a ha).rel⟩;have hr:=rnd_nv (rk0:=oQH m.rels.length vals Fs rk lay) hneg hrel;have hcl:∀ i l,i<m.rels.length→¬ (vQD (aQG m vals lay) (nv (aQG m vals lay) m.rels.length (oQH m.rels.length vals Fs rk lay) T) i l∧nv (aQG m vals lay) m.rels.length (oQH m.rels.length vals Fs rk lay) T i l=none):=fun i l hi hd=>by
  obtain ⟨r,hri⟩:∃ r,rs[i]?=some r:=⟨_,List.getElem?_eq_getElem (by rw [h.len];exact hi)⟩;refine hx i r l hri ?_ (((hr T).2.2 i l hi).2 hd);obtain ⟨c,hc,e,ν,hν,_,ht⟩:=hd.1;have hfi:=hf.heads c (hmem c hc).1;obtain ⟨hv1,hv2⟩:=pQG.1 hν;rw [pQG,(h.rel i r hri).1,←ht,List.length_map,hfi.len,e];refine ⟨rfl,fun x hxm=>?_⟩;obtain ⟨t,htm,rfl⟩:=List.mem_map.1 hxm;obtain ⟨t1,t2,t3⟩:=hfi.tms t htm;unfold tvR;split
  ·rw [List.getD_eq_getElem?_getD];cases hq:ν[t.num.toNat]? with
   | none=>simp
   | some y=>exact hv2 y (List.mem_of_getElem? hq)
  ·omega
 refine ⟨T,fun t ht=>?_⟩;obtain ⟨u,rfl⟩:∃ u,t=T+u:=⟨t - T,by omega⟩;rw [e,(hr (T+1)).1,nv_still hcl 1,nv_still hcl u]
theorem lays_pure {m:Mean} {vals:List Nat} {rs:List RelX} {ks:List CluX} (h:RsOk m vals rs) (hf:oQD m) (hst:rQE layG m.clauses vals) (hk:ks.map (·.c)=m.clauses.filter fQD) {Fs:Nat→List Nat→Prop} {rk:Nat→List Nat→Option Nat} {b:Nat} {rk':Nat→List Nat→Option Nat} (hs:cQE rs Fs ks 0 rk b rk'):LaysP m vals Fs rk b rk':=by
 induction hs with
 | refl=>exact .refl
 | step _ h2 ih=>exact .step ih (lay_pure h hf hst hk h2)
theorem Made.lays {w:World} {z eb:Nat} {m:Mean} {bb:Nat} {B:SB} {S:ST} {gr cr:Nat} {rs:List RelX} {tv mv:Value} {ka:Option Addr} {ks:List CluX} {kc:Nat} {vals:List Nat} {rk:Nat→List Nat→Option Nat} (h:Made w z eb m bb B S gr cr rs tv mv ka ks kc vals rk) (hf:oQD m):LaysP m vals (lQD m.clauses) (fun _ _=>none) m.rels.length rk:=by
 have hr:RsOk m vals rs:=⟨h.eng.len,fun i r hi=>by
  have hil:=(List.getElem?_eq_some_iff.1 hi).1;obtain ⟨nm,cols,hc⟩:∃ nm cols,m.rels[i]?=some (nm,cols):=⟨_,_,List.getElem?_eq_getElem (by rw [←h.eng.len];exact hil)⟩;obtain ⟨a,b,_⟩:=h.eng.rels i r nm cols hi hc
  exact ⟨by rw [a];simp [Mean.cols,hc],b⟩⟩
 have:=lays_pure hr hf h.stable h.eng.ksc h.steps;rw [h.eng.len] at this;exact this
end
section
open Go.RowKit
theorem nv_nil {n:Nat} {rk:Nat→List Nat→Option Nat}:∀ t,nv [] n rk t=rk
 | 0=>rfl
 | t+1=>by
  funext i l
  rw [nv_no (fun ⟨c,hc,_⟩=>by simp at hc),nv_nil t]
theorem LayP.none {m:Mean} {vals:List Nat} {Fs:Nat→List Nat→Prop} {lay:Nat} {rk rk':Nat→List Nat→Option Nat} (h:LayP m vals Fs lay rk rk') (h1:aQG m vals lay=[]) (h2:∀ i,i<m.rels.length→vals.getD i 0≠lay):rk' = rk:=by
 obtain ⟨T,hT⟩:=h;rw [hT T (Nat.le_refl _),h1,nv_nil];funext i
 unfold oQH;rw [if_neg (fun q=>h2 i q.1 q.2)]
theorem ways_lay {m:Mean} {vals:List Nat} {Fs:Nat→List Nat→Prop} {lay:Nat} {rk rk':Nat→List Nat→Option Nat} (h:LayP m vals Fs lay rk rk') {e p l1 l2:Nat} (hr:aQG m vals lay=[way1 e p l1,way2 e p l2]) (he:e≠p) (hp:p<m.rels.length) (hel:e<m.rels.length) (hve:vals.getD e 0=lay) (hvp:vals.getD p 0=lay) {E:Nat→Nat→Prop} (hE:∀ x y,x<8→y<8→(Fs e [x,y]↔E x y)) (h8:∀ x y,E x y→x<8∧y<8) (h0:∀ l,¬ Fs p l) {x y:Nat} (hx:x<8) (hy:y<8) (r:Nat):rk' p [x,y]=some r↔Way E 8 r x y∧∀ q,q<r→¬ Way E 8 q x y:=by
 obtain ⟨T,hT⟩:=h
 have key:=fun t=>ways_nv (e:=e) (p:=p) (l1:=l1) (l2:=l2) (n:=m.rels.length) (rk:=oQH m.rels.length vals Fs rk lay) he hp (E:=E) (fun x y hx hy=>by
  unfold oQH;rw [if_pos ⟨hel,hve⟩];unfold fQJ;rw [←hE x y hx hy];by_cases q:Fs e [x,y]
  ·rw [if_pos q];simp [q]
  ·rw [if_neg q];simp [q]) h8 (fun l=>by
  unfold oQH;rw [if_pos ⟨hp,hvp⟩];unfold fQJ
  rw [if_neg (h0 l)]) t hx hy r
 rw [←hr] at key;constructor
 ·intro q;rw [hT T (Nat.le_refl _)] at q;exact ((key T).1 q).2
 ·intro q;rw [hT (max T r) (Nat.le_max_left _ _)];exact (key (max T r)).2 ⟨Nat.le_max_right _ _,q⟩
end
section
open Go.RowKit
def xQF:List Pc:=domP 3++relP2 [101] .sp++relP2 [112] .sp++ePz (0,1)++ePz (1,2)++wayP1 .sp++atP2 [112] (vrP 88) (vrP 90)++[.sp,.t .arrow,.sp]++atP2 [112] (vrP 88) (vrP 89)++[.t .comma,.sp]++atP2 [101] (vrP 89) (vrP 90)++[.t .dot]
def worksC:List iQA:=[⟨⟨0,[cT 0,cT 1]⟩,[],1⟩,⟨⟨0,[cT 1,cT 2]⟩,[],1⟩,way1 0 1 1,way2 0 1 1]
def worksM:Mean:=⟨[(ba [100],3)],[(ba [101],[0,0]),(ba [112],[0,0])],worksC⟩
def worksI:List vQB:=[.dom (dT 1) ⟨.int (dgB 3),1⟩,.rel ⟨.name (ba [101]),1⟩ [dT 1,dT 1],.rel ⟨.name (ba [112]),1⟩ [dT 1,dT 1],eI2 1 (0,1),eI2 1 (1,2),
 .clause (atI2 [112] (vS 88) (vS 89) 1) [⟨atI2 [101] (vS 88) (vS 89) 1,false⟩],
 .clause (atI2 [112] (vS 88) (vS 90) 1) [⟨atI2 [112] (vS 88) (vS 89) 1,false⟩,⟨atI2 [101] (vS 89) (vS 90) 1,false⟩]]
theorem worksP_ok:okP xQF=true:=by rfl
theorem worksP_items (us:List Tn):wQA (fQB xQF 1++us) worksI us:=by
 refine wQA.trans (is:=[_]) (wQA.one (us:=fQB (relP2 [101] .sp++relP2 [112] .sp++ePz (0,1)++ePz (1,2)++wayP1 .sp++atP2 [112] (vrP 88) (vrP 90)++[.sp,.t .arrow,.sp]++atP2 [112] (vrP 88) (vrP 89)++[.t .comma,.sp]++atP2 [101] (vrP 89) (vrP 90)++[.t .dot]) 1++us) rfl rfl) ?_;refine wQA.trans (is:=[_]) (wQA.one (us:=fQB (relP2 [112] .sp++ePz (0,1)++ePz (1,2)++wayP1 .sp++atP2 [112] (vrP 88) (vrP 90)++[.sp,.t .arrow,.sp]++atP2 [112] (vrP 88) (vrP 89)++[.t .comma,.sp]++atP2 [101] (vrP 89) (vrP 90)++[.t .dot]) 1++us) rfl rfl) ?_;refine wQA.trans (is:=[_]) (wQA.one (us:=fQB (ePz (0,1)++ePz (1,2)++wayP1 .sp++atP2 [112] (vrP 88) (vrP 90)++[.sp,.t .arrow,.sp]++atP2 [112] (vrP 88) (vrP 89)++[.t .comma,.sp]++atP2 [101] (vrP 89) (vrP 90)++[.t .dot]) 1++us) rfl rfl) ?_;refine wQA.trans (is:=[_]) (wQA.one (us:=fQB (ePz (1,2)++wayP1 .sp++atP2 [112] (vrP 88) (vrP 90)++[.sp,.t .arrow,.sp]++atP2 [112] (vrP 88) (vrP 89)++[.t .comma,.sp]++atP2 [101] (vrP 89) (vrP 90)++[.t .dot]) 1++us) rfl rfl) ?_;refine wQA.trans (is:=[_]) (wQA.one (us:=fQB (wayP1 .sp++atP2 [112] (vrP 88) (vrP 90)++[.sp,.t .arrow,.sp]++atP2 [112] (vrP 88) (vrP 89)++[.t .comma,.sp]++atP2 [101] (vrP 89) (vrP 90)++[.t .dot]) 1++us) rfl rfl) ?_;refine wQA.trans (is:=[_]) (wQA.one (us:=fQB (atP2 [112] (vrP 88) (vrP 90)++[.sp,.t .arrow,.sp]++atP2 [112] (vrP 88) (vrP 89)++[.t .comma,.sp]++atP2 [101] (vrP 89) (vrP 90)++[.t .dot]) 1++us) rfl rfl) ?_;exact wQA.one rfl rfl
theorem works_read:∃ toks,pQE (ba (jQA xQF))=.ok (toks,worksM):=by
 have hs:=mQF xQF (jQA xQF).length 1 worksP_ok (Nat.le_refl _);have hi:=worksP_items [⟨.fin,kQD xQF 1⟩];refine ⟨oQB (fQB xQF 1) (kQD xQF 1),?_⟩;unfold pQE;rw [if_neg (show ¬ 1200<(ba (jQA xQF)).size by show ¬ 1200<101;omega),eQD,hs];dsimp only;have hl:(oQB (fQB xQF 1) (kQD xQF 1)).length=(62+1)+worksI.length:=rfl;rw [hl];have e1:zQC ((62+1)+worksI.length) (oQB (fQB xQF 1) (kQD xQF 1))=.ok worksI:=by
  unfold oQB;rw [hi (62+1)];have e2:zQC (62+1) [⟨.fin,kQD xQF 1⟩]=.ok []:=rfl;rw [e2];simp
 rw [e1];dsimp only;rw [show xQB pQH worksI=.ok worksM from rfl];dsimp only;rw [show laterS worksM=.ok worksM from rfl]
def twiceP:List Pc:=[.t .dom,.sp,nmP [100],.sp,inP 3,.t .semi,.sp,.t .dom,.sp,nmP [100],.sp,inP 2,.t .semi]
theorem twice_read:pQE (ba (jQA twiceP))=.error (7,1):=by
 have hs:=mQF twiceP (jQA twiceP).length 1 (by rfl) (Nat.le_refl _);unfold pQE;rw [if_neg (show ¬ 1200<(ba (jQA twiceP)).size by show ¬ 1200<17;omega),eQD,hs];rfl
theorem works_way {r x y:Nat} (h:Way (fun a b=>(a,b)=(0,1)∨(a,b)=(1,2)) 8 r x y):(x=0∧y=1∧r=1)∨(x=1∧y=2∧r=1)∨(x=0∧y=2∧r=2):=by
 induction h with
 | one h=>
  rcases h with h | h
  ·cases h;exact .inl ⟨rfl,rfl,rfl⟩
  ·cases h;exact .inr (.inl ⟨rfl,rfl,rfl⟩)
 | cons h1 _ _ ih=>
  rcases h1 with h1 | h1
  ·cases h1;rcases ih with ⟨q,_⟩ | ⟨_,rfl,rfl⟩ | ⟨q,_⟩
   ·cases q
   ·exact .inr (.inr ⟨rfl,rfl,rfl⟩)
   ·cases q
  ·cases h1;rcases ih with ⟨q,_⟩ | ⟨q,_⟩ | ⟨q,_⟩ <;> cases q
theorem works_facts {i:Nat} {l:List Nat}:lQD worksC i l↔i=0∧(l=[0,1]∨l=[1,2]):=by
 constructor
 ·rintro ⟨c,hc,hl,hr,ν,_,ht⟩;simp only [worksC,List.mem_cons,List.not_mem_nil,or_false] at hc;rcases hc with rfl | rfl | rfl | rfl
  ·exact ⟨hr.symm,.inl (by rw [←ht];rfl)⟩
  ·exact ⟨hr.symm,.inr (by rw [←ht];rfl)⟩
  ·cases hl
  ·cases hl
 ·rintro ⟨rfl,rfl | rfl⟩
  ·exact ⟨_,List.mem_cons_self ..,rfl,rfl,[0,0,0,0],alls4 (by omega) (by omega) (by omega) (by omega),rfl⟩
  ·exact ⟨⟨⟨0,[cT 1,cT 2]⟩,[],1⟩,by simp [worksC],rfl,rfl,[0,0,0,0],alls4 (by omega) (by omega) (by omega) (by omega),rfl⟩
theorem works_holds {vals:List Nat} (hl:LayI worksC 2 vals) {rk:Nat→List Nat→Option Nat} (h:LaysP worksM vals (lQD worksC) (fun _ _=>none) 2 rk):rk 1 [0,2]=some 2∧rk 1 [2,0]=none∧(alls 2).filter (fun l=>(rk 1 l).isSome)=[[0,1],[0,2],[1,2]]:=by
 have hst:rQE layG worksC [0,0]:=fun c hc l hl=>by
  simp only [worksC,List.mem_cons,List.not_mem_nil,or_false] at hc;rcases hc with rfl | rfl | rfl | rfl
  ·cases hl
  ·cases hl
  ·simp only [way1,List.mem_cons,List.not_mem_nil,or_false] at hl;subst hl;rfl
  ·simp only [way2,List.mem_cons,List.not_mem_nil,or_false] at hl;rcases hl with rfl | rfl <;> rfl
 have h0:=hl.2.2 _ hst 0;have h1:=hl.2.2 _ hst 1;have v0:vals.getD 0 0=0:=by simp at h0;simp;omega
 have v1:vals.getD 1 0=0:=by simp at h1;simp;omega
 have hn:worksM.rels.length=2:=rfl;have hR:∀ lay,aQG worksM vals lay=if lay=0 then [way1 0 1 1,way2 0 1 1] else []:=fun lay=>by
  show ([way1 0 1 1,way2 0 1 1]:List iQA).filter (fun c=>decide (vals.getD c.head.rel 0=lay))=_;simp only [List.filter_cons,List.filter_nil];rw [show (way1 0 1 1).head.rel=1 from rfl,show (way2 0 1 1).head.rel=1 from rfl,v1];by_cases e:lay=0
  ·subst e;rfl
  ·have:¬ (0=lay):=fun q=>e q.symm;simp [*]
 have key:∀ x y,x<8→y<8→∀ r,rk 1 [x,y]=some r↔(x=0∧y=1∧r=1)∨(x=1∧y=2∧r=1)∨(x=0∧y=2∧r=2):=by
  cases h with
  | step h1 s1=>cases h1 with
   | step h0 s0=>
    cases h0
    have e1:=s1.none (by rw [hR];rfl) (fun i hi=>by
     rw [hn] at hi;have:i=0∨i=1:=(by omega);rcases this with rfl | rfl
     ·rw [v0];decide
     ·rw [v1];decide)
    subst e1;intro x y hx hy r;have hw:=ways_lay s0 (by rw [hR];rfl) (by decide) (by decide) (by decide) v0 v1 (E:=fun a b=>(a,b)=(0,1)∨(a,b)=(1,2)) (fun a b _ _=>by rw [works_facts];simp) (fun a b q=>by rcases q with q | q <;> cases q <;> exact ⟨by omega,by omega⟩) (fun l q=>by cases (works_facts.1 q).1) hx hy r;rw [hw];constructor
    ·rintro ⟨a,_⟩;exact works_way a
    ·have w1:Way (fun a b=>(a,b)=(0,1)∨(a,b)=(1,2)) 8 1 0 1:=.one (.inl rfl);have w2:Way (fun a b=>(a,b)=(0,1)∨(a,b)=(1,2)) 8 1 1 2:=.one (.inr rfl);rintro (⟨rfl,rfl,rfl⟩ | ⟨rfl,rfl,rfl⟩ | ⟨rfl,rfl,rfl⟩)
     ·exact ⟨w1,fun q hq hw=>by have:=hw.pos;omega⟩
     ·exact ⟨w2,fun q hq hw=>by have:=hw.pos;omega⟩
     ·exact ⟨w1.trans (by omega) w2,fun q hq hw=>by
       rcases works_way hw with ⟨_,q,_⟩ | ⟨q,_⟩ | ⟨_,_,q⟩
       ·cases q
       ·cases q
       ·omega⟩
 refine ⟨(key 0 2 (by omega) (by omega) 2).2 (.inr (.inr ⟨rfl,rfl,rfl⟩)),?_,?_⟩
 ·cases hz:rk 1 [2,0] with
  | none=>rfl
  | some q=>rcases (key 2 0 (by omega) (by omega) q).1 hz with ⟨q,_⟩ | ⟨q,_⟩ | ⟨q,_⟩ <;> cases q
 ·have:(alls 2).filter (fun l=>(rk 1 l).isSome)=(alls 2).filter (fun l=>decide (l=[0,1]∨l=[0,2]∨l=[1,2])):=by
   apply List.filter_congr;intro l hl;obtain ⟨h1,h2⟩:=pQG.1 hl;match l,h1 with
   | [x,y],_=>
    have hx:=h2 x (by simp);have hy:=h2 y (by simp);rw [Bool.eq_iff_iff,decide_eq_true_eq,Option.isSome_iff_exists];constructor
    ·rintro ⟨r,hr⟩;rcases (key x y hx hy r).1 hr with ⟨rfl,rfl,_⟩ | ⟨rfl,rfl,_⟩ | ⟨rfl,rfl,_⟩ <;> simp
    ·intro q;simp at q;rcases q with ⟨rfl,rfl⟩ | ⟨rfl,rfl⟩ | ⟨rfl,rfl⟩
     ·exact ⟨1,(key 0 1 hx hy 1).2 (.inl ⟨rfl,rfl,rfl⟩)⟩
     ·exact ⟨2,(key 0 2 hx hy 2).2 (.inr (.inr ⟨rfl,rfl,rfl⟩))⟩
     ·exact ⟨1,(key 1 2 hx hy 1).2 (.inr (.inl ⟨rfl,rfl,rfl⟩))⟩
  rw [this];decide
end
section
open Go.RowKit
def NoBang (cs:List iQA):Prop:=∀ c∈cs,∀ a∈c.lits,a.2=false
theorem derives_mono {cs:List iQA} (hb:NoBang cs) {rk rk':Nat→List Nat→Option Nat} (h:∀ i l,(rk i l).isSome=true→(rk' i l).isSome=true) {i:Nat} {l:List Nat} (hd:vQD cs rk i l):vQD cs rk' i l:=by
 obtain ⟨c,hc,e,ν,hν,hl,ht⟩:=hd;refine ⟨c,hc,e,ν,hν,fun a ha=>?_,ht⟩;have h1:=hl a ha;have h2:=hb c hc a ha;unfold litH at h1 ⊢;rw [h2] at h1 ⊢;simp only [Bool.false_eq_true,if_false] at h1 ⊢;exact h _ _ h1
theorem nv_le {cs:List iQA} {n:Nat} {rk0:Nat→List Nat→Option Nat} (h0:∀ i l r,rk0 i l=some r→r=0):∀ (t i:Nat) (l:List Nat) (r:Nat),nv cs n rk0 t i l=some r→r≤t
 | 0,i,l,r,h=>by have:=h0 i l r h;omega
 | t+1,i,l,r,h=>by
  simp only [nv] at h;split at h
  ·cases h;omega
  ·have:=nv_le h0 t i l r h;omega
theorem nv_mono {cs:List iQA} (hb:NoBang cs) {n:Nat} {rk0 rk0':Nat→List Nat→Option Nat} (h0:∀ i l r,rk0 i l=some r→r=0) (h0':∀ i l r,rk0' i l=some r→r=0) (h:∀ i l,(rk0 i l).isSome=true→(rk0' i l).isSome=true):∀ (t i:Nat) (l:List Nat) (r:Nat),nv cs n rk0 t i l=some r→∃ r',r'≤r∧nv cs n rk0' t i l=some r'
 | 0,i,l,r,hr=>by
  have h1:=h i l (by show (nv cs n rk0 0 i l).isSome=true;rw [hr];rfl);obtain ⟨r',e⟩:=Option.isSome_iff_exists.1 h1;exact ⟨r',by have:=h0' i l r' e;omega,e⟩
 | t+1,i,l,r,hr=>by
  have ih:=nv_mono (n:=n) hb h0 h0' h t;have up:∀ i l,(nv cs n rk0 t i l).isSome=true→(nv cs n rk0' t i l).isSome=true:=fun i l hs=>by
   obtain ⟨x,hx⟩:=Option.isSome_iff_exists.1 hs;obtain ⟨y,_,hy⟩:=ih i l x hx;rw [hy];rfl
  cases hq:nv cs n rk0' t i l with
  | some q=>
   have e:nv cs n rk0' (t+1) i l=some q:=by
    rw [←hq];exact nv_old (by rw [hq];simp)
   refine ⟨q,?_,e⟩;simp only [nv] at hr;split at hr
   ·cases hr;have:=nv_le h0' t i l q hq;omega
   ·obtain ⟨r',h1,h2⟩:=ih i l r hr;rw [hq] at h2;cases h2;exact h1
  | none=>
   simp only [nv] at hr;split at hr
   ·rename_i hc;cases hr;refine ⟨t+1,Nat.le_refl _,?_⟩;simp only [nv];rw [if_pos ⟨hc.1,hq,derives_mono hb up hc.2.2⟩]
   ·obtain ⟨r',h1,h2⟩:=ih i l r hr;rw [hq] at h2;cases h2
end
end Go.Proofs.YtgjomknpjigkhaaGreatDoor
