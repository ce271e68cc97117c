import Derived.Test.YtgjomknpjigkhaaGreatDoorZ36
namespace Go.Proofs.YtgjomknpjigkhaaGreatDoor
open Go.Proofs.Tryz
set_option maxRecDepth 100000
set_option maxHeartbeats 4000000
section
open Go.RowKit Go.Shelf
attribute [local go_sem] Oper.semAt_some
theorem TZ (w:World) {h:Bu} (hh:KT w h) {ad:Option Addr} {ls:List Bu} {bc:Nat} (hls:Ll w ad ls) {z:Nat} (hz:1≤z) (hz8:z≤8) {nm:List UInt8} (hn4:nm.length=4):Calls prog 42 #[.agg #[.int .i64 h.rel,.bool h.no,.slice h.av h.L.length h.cap,.slice ad ls.length bc],.int .i64 (z:Int),.string (ba nm),.bool true] w fun e w'=>e=.returned (.string (ba (Ae (EH z nm h (ls.take 4).reverse))))∧AA [] w w':=by
 obtain ⟨M,hM⟩:∃ M,ls.length=M:=⟨_,rfl⟩;obtain ⟨n,hn⟩:∃ n,(n=4∧4<M)∨(n=M∧¬ 4<M):=by
  by_cases h:4<M
  ·exact ⟨4,.inl ⟨rfl,h⟩⟩
  ·exact ⟨M,.inr ⟨rfl,h⟩⟩
 have htk:ls.take 4=ls.take n:=by
  rcases hn with ⟨h1,_⟩ | ⟨h1,h2⟩
  ·rw [h1]
  ·rw [A9 (by omega),A9 (by omega)]
 rw [htk];clear htk;obtain ⟨zs,hlr⟩:∃ zs,(ls.take n).reverse=zs:=⟨_,rfl⟩;rw [hlr];have hrn:zs.length=n:=by rw [←hlr,Cq,BH];omega
 have hra:∀ i,i<n→zs[i]?=ls[n - 1 - i]?:=fun i hi=>by
  have hl:(ls.take n).length=n:=by rw [BH];omega
  rw [←hlr,List.getElem?_reverse (by omega),hl,List.getElem?_take_of_lt (by omega)]
 have Hra:=AD (Ak hrn hra);clear hlr hrn hra;have HM:=AD hM;rw [hM];clear hM;have kF:=AA.alloc [] w (.cells #[.int .i64 h.rel,.bool h.no,.slice h.av h.L.length h.cap,.slice ad M bc] 62);have hF:=AK.new w #[.int .i64 h.rel,.bool h.no,.slice h.av h.L.length h.cap,.slice ad M bc] 62;have d0:=hF.cell 0;have d1:=hF.cell 1;have d2:=hF.cell 2;have d3:=hF.cell 3;simp at d0 d1 d2 d3;have hat:=AD (fun (W:World) (k:AA [] w W) (l:Bu) (hl:KT w l)=>MQ W l.rel l.no (cap:=l.cap) hl.lo hl.hi (hl.ints.keeps k) hz hz8 hn4);have ha0:=AD (fun (W:World) (k:AA [] w W)=>hat.out W k h hh);have Hend:=AD (XZ z nm h zs);have HA0:Hid (ba (Ae (Di z nm h))=Ib z nm h []):=AD (by unfold Ib;simp [FQ]);have Hsz:=AD (Ta z nm h);have Hf1:=AD (fun l=>QX (z:=z) (nm:=nm) (h:=h) (l:=l));have Hm1:=AD (fun l ls hne=>Tb (z:=z) (nm:=nm) (h:=h) (l:=l) (ls:=ls) hne);rw [HA0.out] at ha0;rw [←Hend.out];have HF:=AD hF;have KF:=AD kF;have Hls:=AD hls;clear hF kF hh hls hn4 HA0 Hend;have e1:({ data:=#[32,58,45,32] }:ByteArray)=ba [32,58,45,32]:=rfl;have e2:({ data:=#[44,32] }:ByteArray)=ba [44,32]:=rfl;have e3:({ data:=#[33] }:ByteArray)=ba [33]:=rfl;have e4:({ data:=#[46] }:ByteArray)=ba [46]:=rfl;go_in
 simp only [e1,e2,e3,e4];clear e1 e2 e3 e4;generalize hp1:ba [32,58,45,32]=t1 at *;generalize hp2:ba [44,32]=t2 at *;generalize hp3:ba [33]=t3 at *;generalize hp4:ba [46]=t4 at *;have s1:t1.size=4:=by rw [←hp1];rfl
 have s2:t2.size=2:=by rw [←hp2];rfl
 have s3:t3.size=1:=by rw [←hp3];rfl
 have s4:t4.size=1:=by rw [←hp4];rfl
 clear hp1 hp2 hp3 hp4;generalize ba nm=NM at *;go_wp2_with fail
 refine (ha0.out _ KF.out).mono ?_;rintro e W1 ⟨rfl,k1⟩;have q3:=(HF.out.keeps k1).cell 3;simp at q3;clear d0 d1 d2 d3;have K1:=AD (KF.out.trans k1);have HF1:=AD (HF.out.keeps k1);clear k1 KF HF;have Hn:=AD hn;by_cases h4:4<M
 all_goals
  first | have h4I:(4:Int)<M:=by omega | have h4I:¬ (4:Int)<M:=by omega
  clear hn;go_wp2_with fail
  go_loopw [9,11] (fun y q wr=>∃ (i:Nat),y=.string (Ib z nm h (zs.take i))∧q=.int .i64 i∧i≤n∧AA [] W1 wr) (fun _ q _=>((n:Int) - intOf q).toNat)
  case atStart=>exact ⟨0,rfl,rfl,by omega,AA.refl _ _⟩
  case round=>
   obtain ⟨i,rfl,rfl,hi,hkw⟩:=hrel;have hszl:(zs.take i).length=i:=by rw [BH,CA (by have:=Hra.out.1;omega)]
   have hsz8:(Ib z nm h (zs.take i)).size≤80:=by have:=Hsz.out (zs.take i);have:=Hn.out;omega
   have q4:=(HF1.out.keeps hkw).cell 3;simp at q4;by_cases hin:i<n
   ·have hiI:(i:Int)<4:=by have:=Hn.out;omega
    have hiM:(i:Int)<M:=by have:=Hn.out;omega
    obtain ⟨⟨mr,mn,mav,mL,mc⟩,hm⟩:∃ l,ls[i]?=some l:=⟨_,AB (by have:=HM.out;have:=Hn.out;omega)⟩;obtain ⟨_,g,o,had,hma⟩:=Hls.out i _ hm;subst had;obtain ⟨p,hp⟩:∃ p,n - 1 - i=p:=⟨_,rfl⟩;obtain ⟨l,hl⟩:∃ l,ls[p]?=some l:=⟨_,AB (by have:=HM.out;have:=Hn.out;omega)⟩;obtain ⟨lok,g',o',had',hla⟩:=Hls.out p l hl;injection had' with had';injection had' with hg1 hg2 _;subst hg1 hg2;have hrl:=Hra.out.2 i hin;rw [hp,hl] at hrl;try have hpA:(3:Int) - (i:Int)=(p:Int):=by have:=Hn.out;omega
    try have hpB:(M:Int) - 1 - (i:Int)=(p:Int):=by have:=Hn.out;omega
    have hpM:(p:Int)<M:=by have:=Hn.out;omega
    have hm2:=hma.keeps (K1.out.trans hkw);have r0:=hm2.c0;have r1:=hm2.c1;have r2:=hm2.c2;have hl2:=hla.keeps (K1.out.trans hkw);have p0:=hl2.c0;have p1:=hl2.c1;have p2:=hl2.c2;have kM:=AA.alloc [] wr (.cells #[.int .i64 mr,.bool mn,.slice mav mL.length mc] 59);have q5:=Bb kM q4;have p0:=Bb kM p0;have p1:=Bb kM p1;have p2:=Bb kM p2;clear hm hma hm2 hp kM;have hal:=AD (fun (W:World) (k:AA [] w W)=>hat.out W k l lok);have htk:zs.take (i+1)=zs.take i++[l]:=by rw [An,hrl];rfl
    have sal:(ba (Ae (Di z nm l))).size≤12:=by rw [C9];exact Iu z nm l
    have kC:=AA.alloc [] wr (.cells #[.int .i64 l.rel,.bool l.no,.slice l.av l.L.length l.cap] 59);have KC:=AD ((K1.out.trans hkw).trans kC);have KW:=AD (hkw.trans kC);have G1:Hid (i=0→(l.no=false→Ib z nm h (zs.take i)++t1++ba (Ae (Di z nm l))=Ib z nm h (zs.take (i+1)))∧(l.no=true→Ib z nm h (zs.take i)++t1++t3++ba (Ae (Di z nm l))=Ib z nm h (zs.take (i+1)))):=AD (fun e=>by subst e;rw [htk];exact Hf1.out l);have G2:Hid (0<i→(l.no=false→Ib z nm h (zs.take i)++t2++ba (Ae (Di z nm l))=Ib z nm h (zs.take (i+1)))∧(l.no=true→Ib z nm h (zs.take i)++t2++t3++ba (Ae (Di z nm l))=Ib z nm h (zs.take (i+1)))):=AD (fun e=>by rw [htk];exact Hm1.out l (zs.take i) (by intro q;rw [q] at hszl;simp at hszl;omega));obtain ⟨lr,ln,lav,lL,lc⟩:=l;clear hla hl2 hl kC htk hkw lok hszl hrl;dsimp only at *;generalize ba (Ae (Di z nm ⟨lr,ln,lav,lL,lc⟩))=tk at *;rcases C1 i with hi0 | hi0
    ·have g:=G1.out hi0;subst hi0;simp only [D3,CY] at r0 r1 r2
     first
      | (have hp3:p=3:=by have:=Hn.out;omega
         subst hp3
         simp only [Nat.reduceMul] at p0 p1 p2)
      | have hpC:(M:Int) - 1=(p:Int):=by have:=Hn.out;omega
     generalize Ib z nm h (zs.take 0)=tt at *;cases ln with
     | false=>
      have Hg:=AD (g.1 rfl);clear g G1 G2;go_wp2_with fail
      refine (hal.out _ KC.out).mono ?_;rintro e W5 ⟨rfl,k5⟩;go_wp2_with fail
      exact ⟨⟨1,by rw [←Hg.out],by simp,by omega,KW.out.trans k5⟩,by simp only [intOf];omega⟩
     | true=>
      have Hg:=AD (g.2 rfl);clear g G1 G2;go_wp2_with fail
      refine (hal.out _ KC.out).mono ?_;rintro e W5 ⟨rfl,k5⟩;go_wp2_with fail
      exact ⟨⟨1,by rw [←Hg.out],by simp,by omega,KW.out.trans k5⟩,by simp only [intOf];omega⟩
    ·have g:=G2.out hi0;have hi0I:¬ (i:Int)=0:=(by omega);generalize Ib z nm h (zs.take i)=tt at *;cases ln with
     | false=>
      have Hg:=AD (g.1 rfl);clear g G1 G2;go_wp2_with fail
      refine (hal.out _ KC.out).mono ?_;rintro e W5 ⟨rfl,k5⟩;go_wp2_with fail
      exact ⟨⟨i+1,by rw [←Hg.out],by simp,by omega,KW.out.trans k5⟩,by simp only [intOf];omega⟩
     | true=>
      have Hg:=AD (g.2 rfl);clear g G1 G2;go_wp2_with fail
      refine (hal.out _ KC.out).mono ?_;rintro e W5 ⟨rfl,k5⟩;go_wp2_with fail
      exact ⟨⟨i+1,by rw [←Hg.out],by simp,by omega,KW.out.trans k5⟩,by simp only [intOf];omega⟩
   ·have hin2:i=n:=(by omega);subst hin2;have htk:zs.take i=zs:=A9 (by have:=Hra.out.1;omega);rw [htk] at hsz8 ⊢;clear htk hszl;try have hiA:¬ (i:Int)<4:=by have:=Hn.out;omega
    try have hiB:¬ (i:Int)<M:=by have:=Hn.out;omega
    go_wp2_with fail
    go_ret
    exact ⟨rfl,K1.out.trans hkw⟩
def Rn (z:Nat) (nm:List UInt8) (rs:List C0):ByteArray:=ba (Ae (GR z++rs.flatMap (EN z nm true)))
def Xc (z:Nat) (nm:List UInt8) (rs:List C0) (fs:List Ch):ByteArray:=ba (Ae (CK z nm true rs fs))
theorem Yq (z:Nat) (nm:List UInt8):ba (Ae (GR z))=Rn z nm []:=by unfold Rn;simp
theorem bG {z:Nat} {nm:List UInt8} {rs:List C0} {r:C0} (h:r.body≠[]):Rn z nm rs++ba (Ae (EH z nm r.head (r.body.take 4).reverse))++ba [10]=Rn z nm (rs++[r]):=by
 have e:EN z nm true r=EH z nm r.head (r.body.take 4).reverse++[.nl]:=by
  unfold EN;rw [if_neg (by simpa using h)];rfl
 unfold Rn;rw [DU,DU,Cr,A6,DS,BR,e,←Ab,Ay (GR z++_),Ay (EH z nm r.head (r.body.take 4).reverse),Ab];rfl
theorem bH {z:Nat} {nm:List UInt8} {rs:List C0} {r:C0} (h:r.body=[]):Rn z nm rs=Rn z nm (rs++[r]):=by
 unfold Rn;rw [Cr,A6,DS,BR];unfold EN;rw [h];simp
theorem Yp (z:Nat) (nm:List UInt8) (rs:List C0):Rn z nm rs=Xc z nm rs []:=by unfold Rn Xc CK;simp
theorem bE (z:Nat) (nm:List UInt8) (rs:List C0) (fs:List Ch) (f:Ch):Xc z nm rs fs++ba (Ae (Ee (kOf f.rel) (DG z f.L (kOf f.rel))))++ba [10]=Xc z nm rs (fs++[f]):=by
 unfold Xc CK;rw [DU,DU,Cr,A6,DS,BR,←Ab,Ay (_++fs.flatMap _)];unfold H9;rw [Ay (Ee _ _),Ab];rfl
theorem NK (z:Nat) (nm:List UInt8) (rs:List C0):(Ae (rs.flatMap (EN z nm true))).length≤100 * rs.length:=by
 induction rs with
 | nil=>exact AQ _
 | cons r rs ih=>
  rw [A6,Ay,AJ,AU];have:=Kc z nm true r;omega
theorem bF (z:Nat) (nm:List UInt8) (rs:List C0):(Rn z nm rs).size≤61+100 * rs.length:=by
 unfold Rn;rw [C9,Ay,AJ];have h1:=NK z nm rs;have h2:(Ae (GR z)).length=61:=rfl;omega
theorem Tp (z:Nat) (nm:List UInt8) (rs:List C0) (fs:List Ch):(Xc z nm rs fs).size≤61+100 * rs.length+20 * fs.length:=by
 unfold Xc CK;rw [C9,Ay,Ay,AJ,AJ];have h1:=NK z nm rs;have h3:=O9 z fs;have h2:(Ae (GR z)).length=61:=rfl;omega
theorem Og (w:World) {ra:Option Addr} {rs:List C0} {rc:Nat} (hrs:IF w ra rs) (hrl:rs.length≤10000000000000) {fa:Option Addr} {fs:List Ch} {fc:Nat} (hfs:IK w fa fs) (hfl:fs.length≤10000000000000) {z:Nat} (hz:1≤z) (hz8:z≤8) {nm:List UInt8} (hn4:nm.length=4):Calls prog 20 #[.int .i64 (z:Int),.slice ra rs.length rc,.slice fa fs.length fc,.string (ba nm),.bool true] w fun e w'=>e=.returned (.string (ba (Ae (CK z nm true rs.reverse fs.reverse))))∧AA [] w w':=by
 have hru:=AD (fun (W:World) (k:AA [] w W) (r:C0) (hr:KP w r)=>TZ (bc:=r.bc) W (hr.head.keeps k) (hr.body.keeps k) hz hz8 hn4);have hhd:=AD (MF w (z:=z) (by omega));rw [Yq z nm] at hhd;have hft:=AD (fun (W:World) (k:AA [] w W) (f:Ch) (hf:KV w f)=>MH W (cap:=f.cap) hf.lo hf.hi (hf.ints.keeps k) hz hz8 (WV f.rel) (IU f.rel));rw [show ba (Ae (CK z nm true rs.reverse fs.reverse))=Xc z nm rs.reverse fs.reverse from rfl];obtain ⟨qs,hqs⟩:∃ qs,rs.reverse=qs:=⟨_,rfl⟩;obtain ⟨gs,hgs⟩:∃ gs,fs.reverse=gs:=⟨_,rfl⟩;rw [hqs,hgs];have Hq:Hid (qs.length=rs.length∧∀ i,i<rs.length→qs[i]?=rs[rs.length - 1 - i]?):=AD ⟨by rw [←hqs,Cq],fun i hi=>by rw [←hqs,List.getElem?_reverse hi]⟩;have Hgs:Hid (gs.length=fs.length∧∀ i,i<fs.length→gs[i]?=fs[fs.length - 1 - i]?):=AD ⟨by rw [←hgs,Cq],fun i hi=>by rw [←hgs,List.getElem?_reverse hi]⟩;have Hrs:=AD hrs;have Hfs:=AD hfs;clear hqs hgs;clear hrs hfs hn4;have e1:({ data:=#[10] }:ByteArray)=ba [10]:=rfl;go_in
 simp only [e1];clear e1;obtain ⟨t1,hp1⟩:∃ t,ba [10]=t:=⟨_,rfl⟩;rw [hp1];have s1:t1.size=1:=by rw [←hp1];rfl
 have P1:=AD hp1;clear hp1;generalize ba nm=NM at *;obtain ⟨R,hR⟩:∃ R,rs.length=R:=⟨_,rfl⟩;obtain ⟨F,hF⟩:∃ F,fs.length=F:=⟨_,rfl⟩;have HR:=AD hR;have HF:=AD hF;rw [hR] at hrl Hq ⊢;rw [hF] at hfl Hgs ⊢;clear hR hF;go_wp2_with fail
 refine hhd.out.mono ?_;rintro e W1 ⟨rfl,e1⟩;subst e1;go_wp2_with fail
 go_loopw [11,12] (fun y q wr=>∃ (i:Nat),y=.string (Rn z nm (qs.take i))∧q=.int .i64 i∧i≤R∧AA [] W1 wr) (fun _ q _=>((R:Int) - intOf q).toNat)
 case atStart=>exact ⟨0,rfl,rfl,by omega,AA.refl _ _⟩
 case round=>
  obtain ⟨i,rfl,rfl,hi,hkw⟩:=hrel;have hszl:(qs.take i).length=i:=by rw [BH,CA (by have:=Hq.out.1;omega)]
  have hsz8:(Rn z nm (qs.take i)).size≤61+100 * i:=by have:=bF z nm (qs.take i);omega
  by_cases hin:i<R
  ·have hiI:(i:Int)<R:=(by omega);obtain ⟨⟨⟨mr,mn,mav,mL,mc⟩,mad,mbody,mbc⟩,hm⟩:∃ r,rs[i]?=some r:=⟨_,AB (by have:=HR.out;omega)⟩;obtain ⟨_,g,o,had,hma⟩:=Hrs.out i _ hm;subst had;obtain ⟨p,hp⟩:∃ p,R - 1 - i=p:=⟨_,rfl⟩;obtain ⟨r,hr⟩:∃ r,rs[p]?=some r:=⟨_,AB (by have:=HR.out;omega)⟩;obtain ⟨rok,g',o',had',hra⟩:=Hrs.out p r hr;injection had' with had';injection had' with hg1 hg2 _;subst hg1 hg2;have hqr:=Hq.out.2 i hin;rw [hp,hr] at hqr;have hpB:(R:Int) - 1 - (i:Int)=(p:Int):=(by omega);have hpR:(p:Int)<R:=(by omega);have hm2:=hma.keeps hkw;have m0:=hm2.c0;have m1:=hm2.c1;have m2:=hm2.c2;have m3:=hm2.c3;dsimp only at m0 m1 m2 m3;have hr2:=hra.keeps hkw;have kM:=AA.alloc [] wr (.cells #[.int .i64 mr,.bool mn,.slice mav mL.length mc,.slice mad mbody.length mbc] 62);have p0:=Bb kM hr2.c0;have p1:=Bb kM hr2.c1;have p2:=Bb kM hr2.c2;have p3:=Bb kM hr2.c3;clear hm hma hm2 hp kM;have kC:=AA.alloc [] wr (.cells #[.int .i64 r.head.rel,.bool r.head.no,.slice r.head.av r.head.L.length r.head.cap,.slice r.ad r.body.length r.bc] 62);have hal:=AD (fun (W:World) (k:AA [] W1 W)=>hru.out W k r rok);have htk:qs.take (i+1)=qs.take i++[r]:=by rw [An,hqr];rfl
   have G1:Hid (r.body≠[]→Rn z nm (qs.take i)++ba (Ae (EH z nm r.head (r.body.take 4).reverse))++t1=Rn z nm (qs.take (i+1))):=AD (fun e=>by rw [htk,←P1.out];exact bG e);have G2:Hid (r.body=[]→Rn z nm (qs.take i)=Rn z nm (qs.take (i+1))):=AD (fun e=>by rw [htk];exact bH e);have KC:=AD (hkw.trans kC);have hq:=Kc z nm true r;have hq2:r.body≠[]→(ba (Ae (EH z nm r.head (r.body.take 4).reverse))).size≤100:=fun e=>by
    unfold EN at hq;rw [if_neg (by simpa using e),Ay,AJ] at hq;rw [C9];exact At (Nat.le_add_right _ _) hq
   have Hq2:=AD hq2;obtain ⟨bl,hbl⟩:∃ bl,r.body.length=bl:=⟨_,rfl⟩;have Hbl:=AD hbl;rw [hbl] at p3 hal KC;clear hra hr2 hr kC htk hszl hq hq2 rok hbl hqr;by_cases hb:r.body=[]
   ·have hbl:bl=0:=by rw [←Hbl.out,hb];rfl
    subst hbl;have Hg:=AD (G2.out hb);clear G1 G2 hal hb;go_wp2_with fail
    exact ⟨⟨i+1,by rw [←Hg.out],by simp,by omega,KC.out⟩,by simp only [intOf];omega⟩
   ·have hbl:(0:Int)<(bl:Int):=by have:=List.length_pos_iff.2 hb;have:=Hbl.out;omega
    have Hg:=AD (G1.out hb);have hq:=Hq2.out hb;clear G1 G2 hb Hq2;generalize ba (Ae (EH z nm r.head (r.body.take 4).reverse))=tk at *;generalize Rn z nm (qs.take i)=tt at *;go_wp2_with fail
    refine (hal.out _ KC.out).mono ?_;rintro e W5 ⟨rfl,k5⟩;go_wp2_with fail
    exact ⟨⟨i+1,by rw [←Hg.out],by simp,by omega,KC.out.trans k5⟩,by simp only [intOf];omega⟩
  ·have hiI:¬ (i:Int)<R:=(by omega);have hiR:i=R:=(by omega);subst hiR;have hgt:qs.take i=qs:=by rw [A9 (by have:=Hq.out.1;omega)]
   rw [hgt];rw [hgt] at hsz8;clear hgt hszl hsz8;go_wp2_with fail
   rename World=>Wz;go_loopw [11,14] (fun y q wr=>∃ (j:Nat),y=.string (Xc z nm qs (gs.take j))∧q=.int .i64 j∧j≤F∧AA [] W1 wr) (fun _ q _=>((F:Int) - intOf q).toNat)
   case atStart=>exact ⟨0,by rw [Yp];rfl,rfl,by omega,hkw⟩
   case round=>
    obtain ⟨j,rfl,rfl,hj,hkr⟩:=hrel;have hszl:(gs.take j).length=j:=by rw [BH,CA (by have:=Hgs.out.1;omega)]
    have hsz8:(Xc z nm qs (gs.take j)).size≤61+100 * i+20 * j:=by have:=Tp z nm qs (gs.take j);rw [Hq.out.1] at this;omega
    by_cases hjn:j<F
    ·have hjI:(j:Int)<F:=(by omega);obtain ⟨⟨mr,mav,mL,mc⟩,hm⟩:∃ f,fs[j]?=some f:=⟨_,AB (by have:=HF.out;omega)⟩;obtain ⟨_,g,o,had,hma⟩:=Hfs.out j _ hm;subst had;obtain ⟨p,hp⟩:∃ p,F - 1 - j=p:=⟨_,rfl⟩;obtain ⟨f,hf⟩:∃ f,fs[p]?=some f:=⟨_,AB (by have:=HF.out;omega)⟩;obtain ⟨fok,g',o',had',hfa⟩:=Hfs.out p f hf;injection had' with had';injection had' with hg1 hg2 _;subst hg1 hg2;have hgf:=Hgs.out.2 j hjn;rw [hp,hf] at hgf;have hpB:(F:Int) - 1 - (j:Int)=(p:Int):=(by omega);have hpF:(p:Int)<F:=(by omega);have m0:=Bb hkr hma.c0;have m1:=Bb hkr hma.c1;dsimp only at m0 m1;have kM:=AA.alloc [] wr (.cells #[.int .i64 mr,.slice mav mL.length mc] 51);have p0:=Bb kM (Bb hkr hfa.c0);have p1:=Bb kM (Bb hkr hfa.c1);clear hm hma hp kM;have kC:=AA.alloc [] wr (.cells #[.int .i64 f.rel,.slice f.av f.L.length f.cap] 51);have hal:=AD (fun (W:World) (k:AA [] W1 W)=>hft.out W k f fok);have htk:gs.take (j+1)=gs.take j++[f]:=by rw [An,hgf];rfl
     have Hg:Hid (Xc z nm qs (gs.take j)++ba (Ae (Ee (kOf f.rel) (DG z f.L (kOf f.rel))))++t1=Xc z nm qs (gs.take (j+1))):=AD (by rw [htk,←P1.out];exact bE z nm qs _ f);have hq:(ba (Ae (Ee (kOf f.rel) (DG z f.L (kOf f.rel))))).size≤12:=by rw [C9];exact Mx _ _ _
     have KC:=AD (hkr.trans kC);obtain ⟨bl,hbl⟩:∃ bl,f.L.length=bl:=⟨_,rfl⟩;rw [hbl] at p1 hal KC;clear hfa hf kC htk hszl fok hbl hgf;go_wp2_with fail
     refine (hal.out _ KC.out).mono ?_;rintro e W5 ⟨v5,rfl,_,k5⟩;generalize ba (Ae (Ee (kOf f.rel) (DG z f.L (kOf f.rel))))=tk at *;generalize Xc z nm qs (gs.take j)=tt at *;go_wp2_with fail
     exact ⟨⟨j+1,by rw [←Hg.out],by simp,by omega,KC.out.trans k5⟩,by simp only [intOf];omega⟩
    ·have hjI:¬ (j:Int)<F:=(by omega);have hjF:j=F:=(by omega);subst hjF;have hgt:gs.take j=gs:=by rw [A9 (by have:=Hgs.out.1;omega)]
     rw [hgt];go_wp2_with fail
     go_ret
     exact ⟨rfl,hkr⟩
end
end Go.Proofs.YtgjomknpjigkhaaGreatDoor
