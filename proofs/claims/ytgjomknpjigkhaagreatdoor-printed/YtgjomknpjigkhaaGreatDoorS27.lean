import Derived.Test.YtgjomknpjigkhaaGreatDoorS26
namespace Go.Proofs.YtgjomknpjigkhaaGreatDoor
set_option maxRecDepth 100000
set_option maxHeartbeats 4000000
section
open Go.RowKit
def LayTo (bb gr cr:Nat) (B:SB) (rs:List RelX) (x0 x1 x3:Value) (Fs:Nat→List Nat→Prop) (rk0:Nat→List Nat→Option Nat) (cs:List ClauseM) (w:World) (S:ST) (e:Ending) (w':World):Prop:=
 e=.returned (.tuple #[])∧∃ rs' S' T,Bse w' bb B S' gr cr rs' x0 x1 x3∧LikeRs rs rs'∧Keeps (ftp B gr rs) w w'∧S'.next≤S.next+33000000000000∧AllS S' rs' Fs (rnd cs rs.length rk0 (litsC cs rk0) (T+1)).rk∧∀ (i:Nat) (r:RelX),rs'[i]?=some r→Rep S' 0 r.n ((rnd cs rs.length rk0 (litsC cs rk0) T).x i)
def LayIn (bb gr cr:Nat) (B:SB) (rs:List RelX) (x0 x1 x3:Value) (Fs:Nat→List Nat→Prop) (rk0:Nat→List Nat→Option Nat) (cs:List ClauseM) (gu:Nat) (ghs:List Nat) (w:World) (S:ST) (x y:Value) (wr:World):Prop:=
 ∃ (t g cf:Nat) (fs:List Int) (S1:ST) (rs1:List RelX) (us:List RuX),x=.slice (some ⟨g,0,none⟩) rs.length cf∧y=.int .i64 ((t:Int)+1)∧Bse wr bb B S1 gr cr rs1 x0 x1 x3∧LikeRs rs rs1∧Keeps (ftp B gr rs) w wr∧w.heap.size≤g∧g∉ghs∧RowIs wr g fs∧RusAt wr (ftp B gr rs) gu us∧Hid (us.map (·.c)=cs)∧Hid (us.map (·.gh)=ghs)∧FndS S1 rs1 fs (rnd cs rs.length rk0 (litsC cs rk0) t).x∧HolS S1 us (rnd cs rs.length rk0 (litsC cs rk0) t).hs∧AllS S1 rs1 Fs (rnd cs rs.length rk0 (litsC cs rk0) t).rk∧Hid (S1.next≤S.next+5300000000+10520024570 * t)∧Hid (missFrom (rnd cs rs.length rk0 (litsC cs rk0) t).rk (rs.map (·.n)) 0+t≤3072)
theorem layer_calls {w:World} {bb gr cr:Nat} {B:SB} {S:ST} {rs:List RelX} {x0 x1:Value} {ka:Option Addr} {ks:List CluX} {kc:Nat} (h:Bse w bb B S gr cr rs x0 x1 (.slice ka ks.length kc)) {Fs:Nat→List Nat→Prop} {rks:Nat→List Nat→Option Nat} (ha:AllS S rs Fs rks) (hks:KlsAt w (ftp B gr rs) ka ks) (hok:∀ k∈ks,ClOk rs k.c∧0<k.c.lits.length) (h52:ks.length≤52) (h0:0<rs.length) (lay:Nat) (hl:S.next+34000000000000<lim) :
  Calls Tryz.prog 150 #[.pointer (some ⟨bb,0,none⟩),.int .i64 (lay:Int)] w (LayTo bb gr cr B rs x0 x1 (.slice ka ks.length kc) Fs (leaveRk rs Fs rks lay rs.length) ((ks.filter (ofLay rs lay)).map (·.c)) w S):=by
 have h6:=h.few
 have hlv:=hide (leave_calls h ha lay (by omega))
 have Hl:=hide hl
 clear hl
 go_enter Tryz.func150,Tryz.ntmps150
 go_wp2_with fail
 refine hlv.out.mono ?_
 rintro e W1 ⟨rfl,rs1,S1,hb1,lk1,k1,x1',n1,ha1⟩
 have hft:=lk1.ftp (B:=B) (gr:=gr)
 have hks1:=hks.keeps k1 (fun j hj=>.inl hj)
 have hbg:=hide (begin_calls hb1 ha1 (by rw [hft];exact hks1) (fun k hk=>⟨(hok k hk).1.like lk1,(hok k hk).2⟩) h52 lay (by have:=Hl.out;omega))
 have Hn1:=hide n1
 clear n1 hlv
 go_wp2_with fail
 refine hbg.out.mono ?_
 rintro e W2 ⟨v,us,S2,rfl,hB2,hus,hE2,k2,x2,n2⟩
 rw [ofLay_like lk1] at hus
 have hcs:us.map (·.c)=(ks.filter (ofLay rs lay)).map (·.c):=by rw [←hus,List.map_map];rfl
 have hb2:=hb1.store k2 hE2
 have huk:∀ u∈us,u.toCluX∈ks:=fun u hu=>by
  have:u.toCluX∈us.map (·.toCluX):=List.mem_map.2 ⟨u,hu,rfl⟩
  rw [hus] at this
  exact (List.mem_filter.1 this).1
 have hul:us.length≤52:=by
  have e1:=congrArg List.length hus
  rw [List.length_map] at e1
  have:=List.length_filter_le (ofLay rs lay) ks
  omega
 have hX:=h.ftp_lt
 have hX1:∀ j∈ftp B gr rs,j<W1.heap.size:=fun j hj=>Nat.lt_of_lt_of_le (hX j hj) k1.size
 obtain ⟨ua,gu,uc,hv,hua,hru⟩:=hB2.rus (X:=ftp B gr rs) hX1 (fun u hu=>hks1.clu _ (huk u hu)) k2 (fun j hj=>own_ftp hj)
 subst hv
 have hH2:=hB2.hol hcs
 have hgh2:∀ u∈us,w.heap.size≤u.gh:=fun u hu=>Nat.le_trans k1.size (hB2.hld u hu).2.1
 have hok2:∀ u∈us,ClOk rs u.c∧0<u.c.lits.length:=fun u hu=>hok _ (huk u hu)
 have ha2:=ha1.ext x2 hb1.eng.wf hE2.wf
 have hfr:=hide (firstR_calls (uc:=uc) hb2 ha2 hua (by rw [hft];exact hru) (fun u hu=>(hok2 u hu).1.like lk1) hH2 hul (by have:=Hl.out;have:=Hn1.out;omega))
 have Hn2:=hide n2
 have Hus:=hide hus
 clear n2 hbg hus
 go_wp2_with fail
 refine hfr.out.mono ?_
 rintro e W3 ⟨g,cf,fs,S3,rfl,hg,hrow,hE3,k3,x3',n3,hf3⟩
 generalize hCS:(ks.filter (ofLay rs lay)).map (·.c)=cs at *
 generalize hRK:leaveRk rs Fs rks lay rs.length=rk0 at *
 have hb3:=hb2.store k3 hE3
 have hru3:=hru.keeps k3 (fun j hj=>.inl (own_ftp hj))
 have kw3:Keeps (ftp B gr rs) w W3:=(k1.trans (k2.mono (fun j hj=>own_ftp hj))).trans (k3.mono (fun j hj=>own_ftp hj))
 have hgh:∀ q∈us.map (·.gh),w.heap.size≤q:=fun q hq=>by obtain ⟨u,hu,rfl⟩:=List.mem_map.1 hq;exact hgh2 u hu
 have hgn:g∉us.map (·.gh):=fun q=>by
  obtain ⟨u,hu,e⟩:=List.mem_map.1 q
  have:=(hB2.hld u hu).1.lt
  omega
 have hgw:w.heap.size≤g:=by have:=k1.size;have:=k2.size;omega
 have hf0:FndS S3 rs1 fs (rnd cs rs.length rk0 (litsC cs rk0) 0).x:=hf3.iff (fun i l=>by
  show outX _ _ _ i l↔outX _ _ _ i l
  unfold outX
  rw [first_same hcs (fun u hu=>(hB2.hld u hu).2.2.1),lk1.1])
 have hH0:HolS S3 us (rnd cs rs.length rk0 (litsC cs rk0) 0).hs:=hH2.ext x3' hE2.wf hE3.wf
 have ha0:AllS S3 rs1 Fs (rnd cs rs.length rk0 (litsC cs rk0) 0).rk:=ha2.ext x3' hE2.wf hE3.wf
 have hns:∀ n∈rs.map (·.n),n≤3:=fun n hn=>by obtain ⟨r,hr,rfl⟩:=List.mem_map.1 hn;exact h.cols r hr
 have hm0:=miss_few rk0 (rs.map (·.n)) 0 hns
 rw [List.length_map] at hm0
 have Hn3:=hide (show S3.next≤S.next+5300000000 by have:=Hn1.out;have:=Hn2.out;omega)
 have Hcs:=hide hcs
 have e0:rs1.length=rs.length:=lk1.1
 rw [e0]
 generalize hGH:us.map (·.gh)=ghs at *
 have Hst:LayIn bb gr cr B rs x0 x1 (.slice ka ks.length kc) Fs rk0 cs gu ghs w S (.slice (some ⟨g,0,none⟩) rs.length cf) (.int .i64 1) W3:=⟨0,g,cf,fs,S3,rs1,us,rfl,rfl,hb3,lk1,kw3,hgw,hgn,hrow,hru3,Hcs,hide hGH,hf0,hH0,ha0,hide (by have:=Hn3.out;omega),hide (by show missFrom rk0 _ 0+0≤3072;omega)⟩
 have hghs:∀ q∈ghs,w.heap.size≤q:=hgh
 have hu0:us.length=cs.length:=by rw [←Hcs.out,List.length_map]
 have hokc:∀ c∈cs,ClOk rs c∧0<c.lits.length:=fun c hc=>by
  rw [←Hcs.out] at hc
  obtain ⟨u,hu,rfl⟩:=List.mem_map.1 hc
  exact hok2 u hu
 have Hu0:=hide hu0
 have HCS:=hide hCS
 have HRK:=hide hRK
 have hbbw:=h.cells.lt
 have HX:=hide hX
 clear hu0 hok2 hm0 hns ha0 hH0 hf0 hgw hgn hgh hru3 hb3 hRK hCS hGH hf3 n3 x3' k3 hE3 hrow hg hfr ha2 hgh2 hH2 hru hX1 huk hb2 hcs k2 x2 hE2 hB2 hks1 hX Hn3 Hn2 Hn1 Hus kw3 hks hok h52 ha ha1 x1' k1 hb1 hft lk1 e0 Hcs
 go_wp2_with fail
 go_loopw [5,6] (fun x y wr=>LayIn bb gr cr B rs x0 x1 (.slice ka ks.length kc) Fs rk0 cs gu ghs w S x y wr) (fun _ y _=>((4000:Int) - intOf y).toNat)
 case atStart=>exact Hst
 case round=>
  obtain ⟨t,g4,cf4,fs4,S4,rs4,us4,rfl,rfl,hb4,lk4,k4,hg4,hgn4,hrow4,hru4,hc4,hgh4,hf4,hH4,ha4,hn4,hm4⟩:=hrel
  have hft4:=lk4.ftp (B:=B) (gr:=gr)
  have hfl:fs4.length=rs.length:=by rw [hf4.1,lk4.1]
  have er:((t+1:Nat):Int)=(t:Int)+1:=by omega
  have ht:t≤3072:=by have:=hm4.out;omega
  have hgX:g4∉ftp B gr rs:=fun q=>by have:=HX.out _ q;omega
  have hfc:=fresh_calls (cf:=cf4) hb4 ha4 hrow4 (by rw [hft4];exact hgX) hf4 (t+1) (by have:=Hl.out;have:=hn4.out;omega)
  have Hgn:=hide (fun (q:gB fs4 fs4.length=false)=>gB_none q)
  have Hgs:=hide (fun (q:gB fs4 fs4.length=true)=>gB_some q)
  rw [hfl,er] at hfc
  rw [hfl] at Hgn Hgs
  have Hfc:=hide hfc
  have Hfl:=hide hfl
  have Hst4:=hide Hst
  clear hfc hfl er Hst
  go_wp2_with fail
  refine Hfc.out.mono ?_
  rintro e W5 ⟨rfl,rs5,S5,hb5,lk5,k5,x5,n5,ha5⟩
  rw [hft4] at k5
  rw [lk4.1] at ha5
  have lk45:=lk4.trans lk5
  have Hn5:=hide n5
  clear n5 Hfc
  cases hgb:gB fs4 rs.length with
  | false=>
   have hz:=hide (Hgn.out hgb)
   go_wp2_with fail
   go_end0
   rw [HCS.out,HRK.out]
   refine ⟨rfl,rs5,S5,t,hb5,lk45,k4.trans k5,by have:=hn4.out;have:=Hn5.out;omega,ha5,fun i r hr=>?_⟩
   have hif:i<fs4.length:=by rw [Hfl.out,←lk45.1];exact (List.getElem?_eq_some_iff.1 hr).1
   have hff:=List.getElem?_eq_getElem hif
   have e:=hz.out i _ hff
   rw [e] at hff
   exact ((hf4.like lk5).2 i r 0 hr hff).ext x5 hb4.eng.wf hb5.eng.wf
  | true=>
   obtain ⟨j0,f0,hf0,hne⟩:=Hgs.out hgb
   have hj0:j0<rs.length:=by rw [←Hfl.out];exact (List.getElem?_eq_some_iff.1 hf0).1
   have hmiss:missFrom (rnd cs rs.length rk0 (litsC cs rk0) (t+1)).rk (rs.map (·.n)) 0<missFrom (rnd cs rs.length rk0 (litsC cs rk0) t).rk (rs.map (·.n)) 0:=by
    obtain ⟨r4,hr4,hlr⟩:=lk4.2 j0 _ (List.getElem?_eq_getElem hj0)
    obtain ⟨l,hl1,hl2⟩:=(hf4.2 j0 r4 f0 hr4 hf0).some hb4.eng.wf hne
    have hms:=miss_step (ns:=rs.map (·.n)) (k:=t+1) (j:=j0) (n:=r4.n) (by rw [List.getElem?_map,List.getElem?_eq_getElem hj0,hlr.n];rfl) hl1 hl2 (rnd_out cs rs.length rk0 (litsC cs rk0) t hj0 hl2)
    rw [List.length_map] at hms
    exact hms
   have hul4:us4.length=us.length:=by rw [Hu0.out,←hc4.out,List.length_map]
   have hru5:=hru4.keeps k5 (fun j hj=>.inl hj)
   have hft5:=lk45.ftp (B:=B) (gr:=gr)
   have hok5:∀ u∈us4,ClOk rs5 u.c∧0<u.c.lits.length:=fun u hu=>by
    have hm:u.c∈cs:=by rw [←hc4.out];exact List.mem_map.2 ⟨u,hu,rfl⟩
    exact ⟨(hokc _ hm).1.like lk45,(hokc _ hm).2⟩
   have hgw4:∀ u∈us4,w.heap.size≤u.gh:=fun u hu=>hghs _ (by rw [←hgh4.out];exact List.mem_map.2 ⟨u,hu,rfl⟩)
   have hown:∀ j∈B.own,j<w.heap.size:=h.eng.sat.lt
   have hH5:=hH4.ext x5 hb4.eng.wf hb5.eng.wf
   have hf5:=(hf4.like lk5).ext x5 hb4.eng.wf hb5.eng.wf
   have hnx:=nextR_calls (uc:=uc) (cF:=cf4) hb5 ha5 (fun q=>hua (by omega)) (by rw [hft5];exact hru5) (fun u hu e=>by have:=hgw4 u hu;omega) hok5 hH5 (hrow4.keepsE k5 hgX) (fun q=>by
    rcases List.mem_append.1 q with q | q
    ·rw [hgh4.out] at q;exact hgn4 q
    ·have:=hown _ q;omega) hf5 (by omega) (by have:=Hl.out;have:=hn4.out;have:=Hn5.out;omega)
   rw [hul4,lk45.1] at hnx
   have Hnx:=hide hnx
   have Hul4:=hide hul4
   clear hnx hul4 hf0 hne hj0
   go_wp2_with fail
   refine Hnx.out.mono ?_
   rintro e W6 ⟨g6,cf6,fs6,S6,us6,rfl,hg6,hrow6,hE6,k6,x6,n6,hf6,hru6,hlk6,hH6⟩
   have Hn6:=hide n6
   rw [lk45.1]
   rw [hft5] at hru6
   have hul6:us6.length=us.length:=by rw [hlk6.1,Hul4.out]
   obtain ⟨hcs6,hghs6⟩:=hlk6.cs
   rw [hc4.out] at hcs6
   rw [hgh4.out] at hghs6
   have kw6:Keeps (ftp B gr rs) w W6:=(k4.trans k5).trans_new k6 (fun j hj=>by
    rcases List.mem_append.1 hj with q | q
    ·exact .inr (hghs j (by rw [←hgh4.out];exact q))
    ·exact .inl (own_ftp q))
   have hgne:∀ q,q<w.heap.size→q∉B.own→q∉us4.map (·.gh)++B.own:=fun q h1 h2 hm=>by
    rcases List.mem_append.1 hm with hm | hm
    ·have:=hghs q (by rw [←hgh4.out];exact hm);omega
    ·exact h2 hm
   have hb6:=hb5.other k6 (hgne bb hbbw h.bbB) (hgne gr (HX.out gr (by simp [ftp])) h.grB) (fun r hr=>hgne r.rm (HX.out r.rm (by rw [←hft5];simp only [ftp,List.mem_cons,List.mem_append,List.mem_map];exact .inr (.inl ⟨r,hr,rfl⟩))) (hb5.rmB r hr)) hE6
   have hal6:AllS S6 rs5 Fs (rnd cs rs.length rk0 (litsC cs rk0) (t+1)).rk:=ha5.ext x6 hb5.eng.wf hE6.wf
   have hfo6:FndS S6 rs5 fs6 (rnd cs rs.length rk0 (litsC cs rk0) (t+1)).x:=hf6.iff (fun i l=>by
    show outX _ _ _ i l↔outX _ _ _ i l
    unfold outX
    rw [next_same hc4.out,lk45.1])
   have hho6:HolS S6 us6 (rnd cs rs.length rk0 (litsC cs rk0) (t+1)).hs:=fun i u hi=>by
    have:=hH6 i u hi
    rw [hs_same hc4.out] at this
    exact this
   have h46:∀ u∈us6,u.hs.length≤4:=fun u hu=>by
    rw [(hru6.hld u hu).2.2]
    exact (hokc u.c (by rw [←hcs6];exact List.mem_map.2 ⟨u,hu,rfl⟩)).1.few
   have hfl6:fs6.length=rs.length:=by rw [hfo6.1,lk45.1]
   have hsw:=sweepB_calls (uc:=uc) hb6 (fun q=>hua (by omega)) hru6 h46 (by omega) (by omega) (cloneE_calls (cap:=cf6) hrow6 (by omega)) (by rw [lk45.1];exact h0) (roots_ok hal6 hfo6 hho6)
   rw [hul6,hfl6] at hsw
   have Hsw:=hide hsw
   have hg6w:w.heap.size≤g6:=by have:=k4.size;have:=k5.size;omega
   have hg6n:g6∉ghs:=fun q=>by
    rw [←hgh4.out] at q
    obtain ⟨u,hu,e⟩:=List.mem_map.1 q
    have:=(hru5.hld u hu).1.lt
    omega
   have hEnd:=hide (fun (W7:World) (S7:ST) (hE7:EngS W7 B S7) (k7:Keeps B.own W6 W7) (n7:S7.next=S6.next) (hrep:∀ (f:Int) (c:Nat) (R:List Nat→Prop),f∈fs6++rootsR rs5++rootsU us6→Rep S6 f c R→Rep S7 f c R)=>
    show LayIn bb gr cr B rs x0 x1 (.slice ka ks.length kc) Fs rk0 cs gu ghs w S (.slice (some ⟨g6,0,none⟩) rs.length cf6) (.int .i64 ((t:Int)+1+1)) W7 from
     ⟨t+1,g6,cf6,fs6,S7,rs5,us6,rfl,by simp,hb6.store k7 hE7,lk45,kw6.trans (k7.mono (fun j hj=>own_ftp hj)),hg6w,hg6n,hrow6.keepsE k7 (fun q=>by have:=hown _ q;omega),hru6.keeps k7 (fun j hj=>.inl (own_ftp hj)),hide hcs6,hide hghs6,hfo6.swept (fun f c R hf hR=>hrep f c R (by simp [hf]) hR),hho6.swept (fun f c R hf hR=>hrep f c R (by simp [hf]) hR),hal6.swept (fun f c R hf hR=>hrep f c R (by simp [hf]) hR),hide (by have:=hn4.out;have:=Hn5.out;have:=Hn6.out;push_cast;omega),hide (by have:=hm4.out;omega)⟩)
   clear hsw hfl6 hul6 h46 hho6 hfo6 hal6 hgne hcs6 hghs6 hrow6 hf6 hru6 hlk6 hH6 n6 Hnx
   go_wp2_with fail
   refine Hsw.out.mono ?_
   rintro e W7 ⟨rfl,S7,hE7,k7,n7,hrep⟩
   have hI:=hide (hEnd.out W7 S7 hE7 k7 n7 hrep)
   clear hEnd Hsw hrep n7
   go_wp2_with fail
   go_roundw
   ·exact hI.out
   ·simp only [intOf];omega
end
section
open Go.RowKit
def LayStep (rs:List RelX) (Fs:Nat→List Nat→Prop) (ks:List CluX) (lay:Nat) (rk rk':Nat→List Nat→Option Nat):Prop:=
 ∃ T,rk' = (rnd ((ks.filter (ofLay rs lay)).map (·.c)) rs.length (leaveRk rs Fs rk lay rs.length) (litsC ((ks.filter (ofLay rs lay)).map (·.c)) (leaveRk rs Fs rk lay rs.length)) (T+1)).rk ∧
  ∀ (i:Nat) (r:RelX) (l:List Nat),rs[i]?=some r→l∈alls r.n→¬ (rnd ((ks.filter (ofLay rs lay)).map (·.c)) rs.length (leaveRk rs Fs rk lay rs.length) (litsC ((ks.filter (ofLay rs lay)).map (·.c)) (leaveRk rs Fs rk lay rs.length)) T).x i l
inductive LaySteps (rs:List RelX) (Fs:Nat→List Nat→Prop) (ks:List CluX) (a:Nat) (rk:Nat→List Nat→Option Nat):Nat→(Nat→List Nat→Option Nat)→Prop
 | refl:LaySteps rs Fs ks a rk a rk
 | step {b:Nat} {rk1 rk2:Nat→List Nat→Option Nat}:LaySteps rs Fs ks a rk b rk1→LayStep rs Fs ks b rk1 rk2→LaySteps rs Fs ks a rk (b+1) rk2
theorem leaveRk_like {rs rs':List RelX} (h:LikeRs rs rs') (Fs:Nat→List Nat→Prop) (rks:Nat→List Nat→Option Nat) (lay j:Nat):leaveRk rs' Fs rks lay j=leaveRk rs Fs rks lay j:=by
 funext i
 unfold leaveRk
 rw [layOf_like h]
theorem rep_zero {S:ST} {c:Nat} {R:List Nat→Prop} (h:Rep S 0 c R) {l:List Nat} (hl:l∈alls c):¬ R l:=fun hR=>by
 obtain ⟨σ,rfl⟩:=alls_tup hl
 have:=(h.2 σ).2 hR
 rw [den_zero] at this
 cases this
theorem rootsR_ok {S:ST} {rs:List RelX} {Fs:Nat→List Nat→Prop} {rks:Nat→List Nat→Option Nat} (ha:AllS S rs Fs rks):RootsOk S ([]++rootsR rs++rootsU []):=fun f hm=>by
 simp only [rootsU,List.nil_append,List.flatMap_nil,List.append_nil] at hm
 obtain ⟨r,hr,hm⟩:=List.mem_flatMap.1 hm
 obtain ⟨i,hi,rfl⟩:=List.getElem_of_mem hr
 have hR:=ha i _ (List.getElem?_eq_getElem hi)
 simp only [List.mem_cons,List.not_mem_nil,or_false] at hm
 rcases hm with rfl | rfl
 ·exact hR.fa.1
 ·exact hR.tu.1
theorem RusAt.none (w:World) (X:List Nat):RusAt w X 0 []:=⟨fun q=>by simp at q,fun q=>by simp at q,fun u hu=>by simp at hu,fun u hu=>by simp at hu,by simp⟩
def WrkTo (bb gr cr:Nat) (B:SB) (rs:List RelX) (x0 x1 x3:Value) (Fs:Nat→List Nat→Prop) (ks:List CluX) (a:Nat) (rks:Nat→List Nat→Option Nat) (w:World) (S:ST) (e:Ending) (w':World):Prop:=
 e=.returned (.tuple #[])∧∃ rs' S' rk',Bse w' bb B S' gr cr rs' x0 x1 x3∧LikeRs rs rs'∧Keeps (ftp B gr rs) w w'∧S'.next≤S.next+200000000000000∧AllS S' rs' Fs rk'∧LaySteps rs Fs ks a rks rs.length rk'
theorem work_calls {w:World} {bb gr cr:Nat} {B:SB} {S:ST} {rs:List RelX} {x0 x1:Value} {ka:Option Addr} {ks:List CluX} {kc:Nat} (h:Bse w bb B S gr cr rs x0 x1 (.slice ka ks.length kc)) {Fs:Nat→List Nat→Prop} {rks:Nat→List Nat→Option Nat} (ha:AllS S rs Fs rks) (hks:KlsAt w (ftp B gr rs) ka ks) (hok:∀ k∈ks,ClOk rs k.c∧0<k.c.lits.length) (h52:ks.length≤52) (h0:0<rs.length) (a:Nat) (han:a≤rs.length) (hl:S.next+250000000000000<lim) :
  Calls Tryz.prog 75 #[.pointer (some ⟨bb,0,none⟩),.int .i64 (a:Int)] w (WrkTo bb gr cr B rs x0 x1 (.slice ka ks.length kc) Fs ks a rks w S):=by
 have h6:=h.few
 have Hl:=hide hl
 clear hl
 go_enter Tryz.func75,Tryz.ntmps75
 go_wp2_with fail
 go_loopw [1] (fun y wr=>∃ (j:Nat) (rs1:List RelX) (S1:ST) (rk1:Nat→List Nat→Option Nat),y=.int .i64 j∧j≤rs.length∧Bse wr bb B S1 gr cr rs1 x0 x1 (.slice ka ks.length kc)∧LikeRs rs rs1∧Keeps (ftp B gr rs) w wr∧Hid (S1.next≤S.next+33000000000000 * j)∧AllS S1 rs1 Fs rk1∧LaySteps rs Fs ks a rks j rk1) (fun y _=>((rs.length:Int) - intOf y).toNat)
 case atStart=>exact ⟨a,rs,S,rks,rfl,han,h,LikeRs.refl rs,Keeps.refl _ _,hide (by omega),ha,.refl⟩
 case round=>
  obtain ⟨j,rs1,S1,rk1,rfl,hj,hb,lk,hk,hn,ha1,hst⟩:=hrel
  have g2:=hb.cells.cell 2
  simp at g2
  rw [lk.1] at g2
  by_cases hjl:j<rs.length
  ·have hjI:(j:Int)<rs.length:=by omega
   have hks1:=hks.keeps hk (fun j hj=>.inl hj)
   have hft:=lk.ftp (B:=B) (gr:=gr)
   have hly:=hide (layer_calls hb ha1 (by rw [hft];exact hks1) (fun k hk=>⟨(hok k hk).1.like lk,(hok k hk).2⟩) h52 (by rw [lk.1];exact h0) j (by have:=Hl.out;have:=hn.out;omega))
   go_wp2_with fail
   refine hly.out.mono ?_
   rintro e W5 ⟨rfl,rs5,S5,T,hb5,lk5,k5,n5,ha5,hx5⟩
   rw [hft] at k5
   rw [ofLay_like lk,leaveRk_like lk,lk.1] at ha5 hx5
   have hstep:LayStep rs Fs ks j rk1 _:=⟨T,rfl,fun i r l hi hl=>by
    obtain ⟨r',h1,h2⟩:=(lk.trans lk5).2 i r hi
    exact rep_zero (hx5 i r' h1) (by rw [h2.n];exact hl)⟩
   have Hn5:=hide n5
   clear n5 hly g2
   go_wp2_with fail
   go_roundw
   ·exact ⟨j+1,rs5,S5,_,by simp,by omega,hb5,lk.trans lk5,hk.trans k5,hide (by have:=hn.out;have:=Hn5.out;push_cast;omega),ha5,hst.step hstep⟩
   ·simp only [intOf];omega
  ·have hjI:¬ (j:Int)<rs.length:=by omega
   have e:j=rs.length:=by omega
   subst e
   have hsw:=sweepB_calls (uc:=0) (ua:=none) (us:=[]) (gu:=0) (X:=[]) hb (fun q=>by simp at q) (RusAt.none _ _) (fun u hu=>by simp at hu) (by simp) (fs:=[]) (by simp) (cloneE_nil _) (by rw [lk.1];exact h0) (rootsR_ok ha1)
   have Hsw:=hide (show Calls Tryz.prog 151 #[.pointer (some ⟨bb,0,none⟩),.slice none 0 0,.slice none 0 0] _ _ from hsw)
   clear hsw
   go_wp2_with fail
   refine Hsw.out.mono ?_
   rintro e W7 ⟨rfl,S7,hE7,k7,n7,hrep⟩
   have Hrep:=hide hrep
   clear hrep
   go_wp2_with fail
   go_end0
   exact ⟨rfl,rs1,S7,rk1,hb.store k7 hE7,lk,hk.trans (k7.mono (fun q hq=>own_ftp hq)),by rw [n7];have:=hn.out;omega,ha1.swept (fun f c R hf hR=>Hrep.out f c R (by simp [hf]) hR),hst⟩
end
section
open Go.RowKit
def dgs (l:List Nat):List Int:=l.map fun d:Nat=>(d:Int)
theorem asnF_snoc:∀ (l:List Nat) (d p:Nat),asnF (l++[d]) p=asnF l p+r3 d * 2 ^ (3 * (p+l.length))
 | [],d,p=>by simp [asnF]
 | c :: l,d,p=>by
  have:=asnF_snoc l d (p+1)
  simp only [List.cons_append,asnF,this,List.length_cons]
  rw [show p+1+l.length=p+(l.length+1) by omega]
  omega
theorem asnF_few:∀ (l:List Nat) (p:Nat),asnF l p+2 ^ (3 * p)≤2 ^ (3 * (p+l.length))
 | [],p=>by simp [asnF]
 | d :: l,p=>by
  have ih:=asnF_few l (p+1)
  have h1:=r3_lt d
  have e:2 ^ (3 * (p+1))=8 * 2 ^ (3 * p):=by rw [show 3 * (p+1)=3 * p+3 by omega,Nat.pow_add];omega
  have h2:r3 d * 2 ^ (3 * p)≤7 * 2 ^ (3 * p):=Nat.mul_le_mul_right _ (by omega)
  simp only [asnF,List.length_cons]
  rw [show p+(l.length+1)=p+1+l.length by omega]
  omega
theorem r3_step:∀ d,d<8→∀ i,i<3→r3 d % 2 ^ (i+1)=r3 d % 2 ^ i+d / 2 ^ (2 - i) % 2 * 2 ^ i:=by decide
theorem or_none {a:Nat} (h:a<4096):bits BinOp.or IntKind.i64 (a:Int) 0=(a:Int):=by
 have e2:=(bits_nat .i64 62 (by decide) (fun n a b=>by rw [IntKind.wrap_i64];omega) a 0 (by omega) (by omega)).2
 have e3:(((0:Nat):Int))=0:=rfl
 rw [e3] at e2
 rw [e2,Nat.or_zero]
theorem asn_or {A d k i b:Nat} (hd:d<8) (hk:k<3) (hi:i<3) (hA:A<2 ^ (3 * k)) (hb:d / 2 ^ (2 - i) % 2=b):bits BinOp.or IntKind.i64 ((A+r3 d % 2 ^ i * 2 ^ (3 * k):Nat):Int) (IntKind.i64.wrap ((b:Int) * 2 ^ (3 * (k:Int)+(i:Int)).toNat))=((A+r3 d % 2 ^ (i+1) * 2 ^ (3 * k):Nat):Int):=by
 have hv:(3 * (k:Int)+(i:Int)).toNat=3 * k+i:=by omega
 have hb2:b<2:=by omega
 have hr:r3 d % 2 ^ i<2 ^ i:=Nat.mod_lt _ (Nat.two_pow_pos i)
 have hp:2 ^ (3 * k+i)=2 ^ i * 2 ^ (3 * k):=by rw [Nat.pow_add,Nat.mul_comm]
 have h1:(r3 d % 2 ^ i+1) * 2 ^ (3 * k)≤2 ^ i * 2 ^ (3 * k):=Nat.mul_le_mul_right _ hr
 rw [Nat.add_mul,Nat.one_mul] at h1
 have hC:A+r3 d % 2 ^ i * 2 ^ (3 * k)<2 ^ (3 * k+i):=by omega
 have hv9:3 * k+i<9:=by omega
 have h512:2 ^ (3 * k+i)≤2 ^ 9:=Nat.pow_le_pow_right (by decide) (by omega)
 rw [hv,r3_step d hd i hi,hb,Nat.add_mul,←Nat.add_assoc,Nat.mul_assoc b,←hp]
 generalize A+r3 d % 2 ^ i * 2 ^ (3 * k)=C at *
 have hcase:b=0∨b=1:=by omega
 rcases hcase with rfl | rfl
 ·have:IntKind.i64.wrap (((0:Nat):Int) * 2 ^ (3 * k+i))=0:=by simp [IntKind.wrap_i64]
  rw [this,Nat.zero_mul,Nat.add_zero]
  exact or_none (by omega)
 ·have e:((1:Nat):Int) * 2 ^ (3 * k+i)=((2 ^ (3 * k+i):Nat):Int):=by push_cast;omega
  have:IntKind.i64.wrap (((1:Nat):Int) * 2 ^ (3 * k+i))=((2 ^ (3 * k+i):Nat):Int):=by rw [e,IntKind.wrap_i64];omega
  rw [this,Nat.one_mul]
  exact or_pow hC (by omega)
theorem and_bit {d m:Nat} (hd:d<8):bits BinOp.and IntKind.i64 ((d:Int) / 2 ^ m) 1=((d / 2 ^ m % 2:Nat):Int):=by
 have h0:(d:Int) / 2 ^ m=((d / 2 ^ m:Nat):Int):=by push_cast;rfl
 have h1:d / 2 ^ m≤d:=Nat.div_le_self _ _
 rw [h0]
 generalize d / 2 ^ m=q at *
 rw [and_one _ (by omega) (by omega)]
 omega
theorem assign_calls {w:World} {g cap:Nat} {l:List Nat} (hrow:RowIs w g (dgs l)) (hl:l.length≤3) (hd:∀ x∈l,x<8):Calls Tryz.prog 86 #[.slice (some ⟨g,0,none⟩) l.length cap] w fun e w'=>e=.returned (.int .i64 (asn l:Nat))∧Keeps [] w w':=by
 go_enter Tryz.func86,Tryz.ntmps86
 go_wp2_with fail
 go_loopw [3,9] (fun x y wr=>∃ (k:Nat),y=.int .i64 k∧k≤l.length∧x=.int .i64 (asn (l.take k):Nat)∧Keeps [] w wr) (fun _ y _=>((l.length:Int) - intOf y).toNat)
 case atStart=>exact ⟨0,rfl,by omega,by simp [asn,asnF],Keeps.refl _ _⟩
 case round=>
  obtain ⟨k,rfl,hk,rfl,hkp⟩:=hrel
  by_cases hkl:k<l.length
  ·have hkI:(k:Int)<l.length:=by omega
   obtain ⟨d,hdk⟩:∃ d,l[k]?=some d:=⟨_,List.getElem?_eq_getElem hkl⟩
   have hd8:=hd d (List.mem_of_getElem? hdk)
   have c0:=(hrow.keepsE hkp (by simp)).cell (i:=k) (x:=(d:Int)) (by simp [dgs,hdk])
   have hfew:=asnF_few (l.take k) 0
   have hnext:asn (l.take (k+1))=asn (l.take k)+r3 d * 2 ^ (3 * k):=by
    unfold asn
    rw [List.take_add_one,hdk,Option.toList_some,asnF_snoc,List.length_take,Nat.zero_add,Nat.min_eq_left (by omega)]
   have hA0:asn (l.take k)<2 ^ (3 * k):=by
    rw [List.length_take,Nat.zero_add,Nat.min_eq_left (by omega)] at hfew
    unfold asn
    have:=Nat.two_pow_pos (3 * 0)
    omega
   have Hnext:=hide hnext
   generalize hA:asn (l.take k)=A at *
   have HA0:=hide hA0
   have hk3:k<3:=by omega
   rename World=>wo
   clear hnext hfew hA0
   go_wp2_with fail
   clear c0
   go_loopw [3,14] (fun x y wr=>∃ (i:Nat),y=.int .i64 i∧i≤3∧x=.int .i64 (A+r3 d % 2 ^ i * 2 ^ (3 * k):Nat)∧Keeps [] wo wr) (fun _ y _=>((3:Int) - intOf y).toNat)
   case atStart=>exact ⟨0,rfl,by omega,by simp [Nat.mod_one],Keeps.refl _ _⟩
   case round=>
    obtain ⟨i,rfl,hi,rfl,hkp2⟩:=hrel
    by_cases hil:i<3
    ·have hiI:(i:Int)<3:=by omega
     obtain ⟨m,hm⟩:∃ m:Nat,2 - i=m:=⟨_,rfl⟩
     have hmI:IntKind.i64.wrap (2 - (i:Int))=(m:Int):=by rw [IntKind.wrap_i64];omega
     have hvar:=hide (fun (W:World)=>variable_calls W k i (by omega) (by omega))
     have hm3:m<3:=by omega
     have hdI:(d:Int)<8:=by omega
     have hbq:=and_bit (d:=d) (m:=m) hd8
     have hor:=asn_or (A:=A) (d:=d) (k:=k) (i:=i) (b:=d / 2 ^ m % 2) hd8 hk3 hil HA0.out (by rw [hm])
     generalize d / 2 ^ m % 2=b at *
     have Hor:=hide hor
     generalize hC:A+r3 d % 2 ^ i * 2 ^ (3 * k)=C at *
     generalize hD:A+r3 d % 2 ^ (i+1) * 2 ^ (3 * k)=D at *
     have HD:=hide hD
     clear hm hA hC hdk hor hD
     go_wp2_with fail
     go_region_held3 (fun _=>True) (first | exact trivial)
      (first
      | (go_at_call 144
         refine (hvar.out _).mono ?_
         rintro e W5 ⟨rfl,rfl⟩))
     all_goals
      rw [Hor.out]
      go_wp2_with fail
      go_roundw
      ·exact ⟨i+1,by simp,by omega,by rw [HD.out],hkp2.trans (Keeps.drew [] _)⟩
      ·simp only [intOf];omega
    ·have hiI:¬ (i:Int)<3:=by omega
     have e:i=3:=by omega
     subst e
     have e8:r3 d % 2 ^ 3=r3 d:=Nat.mod_eq_of_lt (r3_lt d)
     rw [e8]
     generalize hD:A+r3 d * 2 ^ (3 * k)=D at *
     clear e8 hD
     go_wp2_with fail
     go_roundw
     ·exact ⟨k+1,by simp,by omega,by rw [Hnext.out],hkp.trans hkp2⟩
     ·simp only [intOf];omega
  ·have hkI:¬ (k:Int)<l.length:=by omega
   have e:k=l.length:=by omega
   subst e
   rw [List.take_length]
   go_wp2_with fail
   go_ret
   exact ⟨rfl,hkp⟩
end
section
open Go.RowKit
section
variable {w:World} {bb gr cr:Nat} {B:SB} {S:ST} {rs:List RelX} {x0 x1 x3:Value}
theorem layer_says (h:Bse w bb B S gr cr rs x0 x1 x3) {i:Nat} {r:RelX} (hi:rs[i]?=some r):Calls Tryz.prog 53 #[.pointer (some ⟨bb,0,none⟩),.int .i64 (i:Int)] w fun e w'=>e=.returned (.int .i64 (r.layer:Int))∧w' = w:=by
 obtain ⟨cs,hc,hcs⟩:=h.rel
 have hil:(i:Int)<rs.length:=by have:=(List.getElem?_eq_some_iff.1 hi).1;omega
 have g1:w.cell? ⟨gr,i * 5+1,none⟩=some (.int .i64 (r.layer:Int)):=by rw [hc.cell];exact (hcs i r hi).c1
 have g2:=h.cells.cell 2
 simp at g2
 clear hi
 go_enter Tryz.func53,Tryz.ntmps53
 go_wp2
 go_ret
 exact ⟨rfl,rfl⟩
theorem columns_says (h:Bse w bb B S gr cr rs x0 x1 x3) {i:Nat} {r:RelX} (hi:rs[i]?=some r):Calls Tryz.prog 83 #[.pointer (some ⟨bb,0,none⟩),.int .i64 (i:Int)] w fun e w'=>e=.returned (.int .i64 (r.n:Int))∧w' = w:=by
 obtain ⟨cs,hc,hcs⟩:=h.rel
 have hil:(i:Int)<rs.length:=by have:=(List.getElem?_eq_some_iff.1 hi).1;omega
 have g1:w.cell? ⟨gr,i * 5,none⟩=some (.slice r.sa r.n r.cc):=by rw [hc.cell];exact (hcs i r hi).c0
 have g2:=h.cells.cell 2
 simp at g2
 clear hi
 go_enter Tryz.func83,Tryz.ntmps83
 go_wp2
 go_ret
 exact ⟨rfl,rfl⟩
end
end
section
open Go.RowKit
section
variable {w:World} {bb gr cr:Nat} {B:SB} {S:ST} {rs:List RelX} {x0 x1 x3:Value}
theorem setFa_rm {i:Nat} {r:RelX} (hi:rs[i]?=some r) (f:Int):(rs.set i { r with fa:=f }).map (·.rm)=rs.map (·.rm):=by
 apply List.ext_getElem?
 intro p
 rw [List.getElem?_map,List.getElem?_map,List.getElem?_set]
 by_cases e:i=p
 ·subst e;rw [if_pos rfl,if_pos (List.getElem?_eq_some_iff.1 hi).1,hi];rfl
 ·rw [if_neg e]
theorem setFa_mem {i:Nat} {r:RelX} (hi:rs[i]?=some r) (f:Int):∀ q∈rs.set i { r with fa:=f },∃ q'∈rs,q.rm=q'.rm∧q.L=q'.L∧q.n=q'.n:=fun q hq=>by
 obtain ⟨p,hp,rfl⟩:=List.getElem_of_mem hq
 rw [List.getElem_set]
 split
 ·exact ⟨r,List.mem_of_getElem? hi,rfl,rfl,rfl⟩
 ·exact ⟨_,List.getElem_mem _,rfl,rfl,rfl⟩
theorem Bse.setFa (h:Bse w bb B S gr cr rs x0 x1 x3) {i:Nat} {r:RelX} (hi:rs[i]?=some r) (f:Int):Bse (w.setCell ⟨gr,i * 5+2,none⟩ (.int .i64 f)) bb B S gr cr (rs.set i { r with fa:=f }) x0 x1 x3:=by
 have k:=Keeps.setCell w ⟨gr,i * 5+2,none⟩ (.int .i64 f)
 obtain ⟨cs,hc,hcs⟩:=h.rel
 have hm:=setFa_mem hi f
 refine ⟨by rw [List.length_set];exact h.cells.keeps k (by simpa using h.bbgr),h.eng.keeps k (fun z hz hm=>h.grB (by simp only [List.mem_singleton] at hm;rw [←hm];exact hz)),⟨_,hc.setCell (i * 5+2) (.int .i64 f),RelsC.set hcs ((hcs i r hi).setFa f) (fun j q hj hq=>hq.other (by omega))⟩,fun q hq=>?_,h.bbB,h.grB,fun q hq=>?_,h.bbgr,fun q hq=>?_,fun q hq=>?_,by rw [setFa_rm hi];exact h.nodup,by rw [List.length_set];exact h.few,fun q hq=>?_⟩
 all_goals obtain ⟨q',hq',e1,e2,e3⟩:=hm q hq
 ·rw [e1,e2];exact (h.maps q' hq').kept k (by simpa using fun e=>h.grrm q' hq' e.symm)
 ·rw [e1];exact h.rmB q' hq'
 ·rw [e1];exact h.bbrm q' hq'
 ·rw [e1];exact h.grrm q' hq'
 ·rw [e3];exact h.cols q' hq'
def upF (Fs:Nat→List Nat→Prop) (i:Nat) (F:List Nat→Prop):Nat→List Nat→Prop:=fun j=>if j=i then F else Fs j
theorem AllS.setFa {Fs:Nat→List Nat→Prop} {rks:Nat→List Nat→Option Nat} (h:AllS S rs Fs rks) {i:Nat} {r:RelX} (hi:rs[i]?=some r) {f:Int} {F:List Nat→Prop} (hf:Rep S f r.n F):AllS S (rs.set i { r with fa:=f }) (upF Fs i F) rks:=fun j q hj=>by
 rw [List.getElem?_set] at hj
 unfold upF
 by_cases e:i=j
 ·subst e
  rw [if_pos rfl,if_pos (List.getElem?_eq_some_iff.1 hi).1] at hj
  cases hj
  rw [if_pos rfl]
  exact ⟨hf,(h i r hi).tu,(h i r hi).ranks⟩
 ·rw [if_neg e] at hj
  rw [if_neg (fun q=>e q.symm)]
  exact h j q hj
end
end
end Go.Proofs.YtgjomknpjigkhaaGreatDoor
