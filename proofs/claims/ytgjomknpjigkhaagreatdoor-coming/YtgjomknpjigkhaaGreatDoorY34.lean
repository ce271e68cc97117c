import Derived.Test.YtgjomknpjigkhaaGreatDoorY32
namespace Go.Proofs.YtgjomknpjigkhaaGreatDoor
open Go.Proofs.Tryz
set_option maxRecDepth 100000
set_option maxHeartbeats 4000000
section
open Go.RowKit Go.Shelf
attribute [local go_sem] Oper.semAt_some
def atA (k:Nat) (gs:List Sg):ByteArray:=ba (Ah (Kf k gs))
theorem Zw (k:Nat):IB k++ba [40]=atA k []:=by
 rw [R0,Dx];unfold atA Kf QC;rw [Cg,Cg];simp [Iw,Cy,BF,ba,Ah,La]
theorem kO (k:Nat) (g:Sg):atA k []++BF g=atA k [g]:=by
 rw [←eY];unfold atA;rw [Dx];simp [Kf,La,F4,Ah,Iw]
theorem fC {k:Nat} {gs:List Sg} (h:gs≠[]) (g:Sg):atA k gs++ba [44,32]++BF g=atA k (gs++[g]):=by
 cases gs with
 | nil=>exact absurd rfl h
 | cons a gs=>
  rw [←eY];unfold atA;rw [Dx,Dx];have e:Kf k (a :: gs++[g])=Kf k (a :: gs)++[.t .comma,.sp,.t g]:=by simp [Kf,La,F4]
  rw [e,BQ];have e2:Ah [.t .comma,.sp,.t g]=[44,32]++Cy g:=by simp [Ah,Iw,Cy,BF]
  rw [e2,Ag]
theorem kQ (k:Nat) (gs:List Sg):atA k gs++ba [41]=ba (Ah (Kf k gs++[.t .rp])):=by
 unfold atA;rw [Dx,BQ];rfl
theorem fB {k:Nat} {gs:List Sg} (h:∀ g∈gs,(Cy g).length≤1):(atA k gs).size≤2+3 * gs.length:=by
 unfold atA;rw [D5];exact RL k gs h
theorem cK {nm:List UInt8} (h4:nm.length=4) {v:Nat} (hv:v<4):(ba nm).extract v (v+1)=ba [nm.getD v 0]:=by
 apply Ls;rw [DS,Dh];match nm,h4 with
 | [a,b,c,d],_=>
  have:v=0∨v=1∨v=2∨v=3:=by omega
  rcases this with rfl | rfl | rfl | rfl <;> rfl
theorem TG (w:World) (rel:Int) (no:Bool) {av:Option Addr} {L:List Int} {cap:Nat} (r0:-9223372036854775808≤rel) (r1:rel≤9223372036854775807) (hL:Io w av L) {z:Nat} (hz:1≤z) (hz8:z≤8) {nm:List UInt8} (hn4:nm.length=4):Calls prog 82 #[.agg #[.int .i64 rel,.bool no,.slice av L.length cap],.int .i64 (z:Int),.string (ba nm)] w fun e w'=>e=.returned (.string (ba (Ah (Eb z nm ⟨rel,no,av,L,cap⟩))))∧AA [] w w':=by
 have hend:∀ k,kOf rel=k→ba (Ah (Eb z nm ⟨rel,no,av,L,cap⟩))=atA k (FA z nm L k)++ba [41]:=fun k hk=>by
  rw [kQ];unfold Eb;rw [←hk]
 have hpk:=AD (fun (W:World)=>F8 (w:=W) rel 4 r0 r1 (by decide));rw [M3] at hpk;have hk4:=HB rel;generalize kOf rel=k at *;rw [hend k rfl];clear hend;have hrl:=AD (fun (W:World)=>JM W);have hcl:=AD (fun (W:World)=>Gq W hk4);have kF:=AA.alloc [] w (.cells #[.int .i64 rel,.bool no,.slice av L.length cap] 59);have hF:=AM.new w #[.int .i64 rel,.bool no,.slice av L.length cap] 59;have d0:=hF.cell 0;simp at d0;have HF:=AD hF;have HkF:=AD kF;clear hF kF r0 r1;have snm:(ba nm).size=4:=hn4;have Hcut:=AD (fun (v:Nat) (hv:v<4)=>cK hn4 hv);have e1:({ data:=#[40] }:ByteArray)=ba [40]:=rfl;have e2:({ data:=#[44,32] }:ByteArray)=ba [44,32]:=rfl;have e3:({ data:=#[41] }:ByteArray)=ba [41]:=rfl;generalize hnb:ba nm=NM at *;have Hnb:=AD hnb;clear hnb hn4;go_in
 simp only [e1,e2,e3];clear e1 e2 e3;generalize hp1:ba [40]=t1 at *;generalize hp2:ba [44,32]=t2 at *;generalize hp3:ba [41]=t3 at *;have s1:t1.size=1:=by rw [←hp1];rfl
 have s2:t2.size=2:=by rw [←hp2];rfl
 have s3:t3.size=1:=by rw [←hp3];rfl
 have P1:=AD hp1;have P2:=AD hp2;have P3:=AD hp3;clear hp1 hp2 hp3;go_wp2_with fail
 refine (hpk.out _).mono ?_;rintro e W1 ⟨rfl,e1⟩;subst e1;go_wp2_with fail
 have zF:=AY w (.cells #[.int .i64 rel,.bool no,.slice av L.length cap] 59);generalize w.alloc (.cells #[.int .i64 rel,.bool no,.slice av L.length cap] 59)=WF at *;refine (hrl.out _).mono ?_;rintro e W2 ⟨rfl,hcs,k2⟩;have ZF:=AD zF;clear zF;have q1:=hcs k hk4;have hkI:(k:Int)<4:=by omega
 have s4:(IB k).size=1:=by rw [R0];unfold IC;split <;> rfl
 have hst:=Zw k;rw [P1.out] at hst;have Hst:=AD hst;obtain ⟨gs,hgs⟩:∃ gs,FA z nm L k=gs:=⟨_,rfl⟩;have hcl3:gs.length=relK k:=by rw [←hgs];simp [FA]
 have hck3:relK k≤3:=(Er k).2;have hcat:∀ i,i<relK k→gs[i]?=some (IG z nm (L.getD i 0)):=fun i hi=>by rw [←hgs];simp [FA,hi]
 have hone:∀ g∈gs,(Cy g).length≤1:=by rw [←hgs];exact NN z nm L k
 have Hgs:=AD hgs;have Hcat:=AD hcat;have Hcl3:=AD hcl3;have Hone:=AD hone;have K2:=AD k2;clear hcs hst hgs hcat hcl3 k2 hone;generalize hnm:IB k=nk at *;clear hnm;go_wp2_with fail
 rw [Hst.out];clear q1 d0 s4;obtain ⟨n,hn⟩:∃ n,relK k=n:=⟨_,rfl⟩;rw [hn] at hcl Hcat Hcl3 hck3;clear hn;go_loopw [8,9] (fun y q wr=>∃ (i:Nat),y=.string (atA k (gs.take i))∧q=.int .i64 i∧i≤n∧AA [] WF wr) (fun _ q _=>((n:Int) - intOf q).toNat)
 case atStart=>exact ⟨0,rfl,rfl,by omega,K2.out⟩
 case round=>
  obtain ⟨i,rfl,rfl,hi,hkw⟩:=hrel;have hsz:=fB (k:=k) (gs:=gs.take i) (fun g hg=>Hone.out g (Cj hg));have hszl:(gs.take i).length=i:=by rw [A5,Cv (by have:=Hcl3.out;omega)]
  have hsz8:(atA k (gs.take i)).size≤20:=by omega
  clear hsz;by_cases hin:i<n
  ·have hiI:(i:Int)<n:=(by omega);obtain ⟨x,hxe⟩:∃ x,L.getD i 0=x:=⟨_,rfl⟩;have hci:=Hcat.out i hin;rw [hxe] at hci;have htk:gs.take (i+1)=gs.take i++[IG z nm x]:=by rw [An,hci];rfl
   have h1:i=0→atA k (gs.take i)++BF (IG z nm x)=atA k (gs.take (i+1)):=fun e=>by subst e;rw [htk];exact kO k _
   have h2:0<i→atA k (gs.take i)++t2++BF (IG z nm x)=atA k (gs.take (i+1)):=fun e=>by rw [htk,←P2.out];exact fC (by intro q;rw [q] at hszl;simp at hszl;omega) _
   have H1:=AD h1;have H2:=AD h2;clear hci htk h1 h2 hszl;by_cases hx0:x<0
   ·have hiL:i<L.length:=by
     rcases BL i L.length with q | q
     ·exact q
     ·rw [Af,Ac q] at hxe;have:(0:Int)=x:=hxe;omega
    have hiLI:(i:Int)<L.length:=(by omega);have hx:L[i]?=some x:=by rw [Af,AB hiL] at hxe;rw [AB hiL];exact congrArg some hxe
    obtain ⟨x0,x1,_⟩:=hL i x hx;have hpx:=AD (fun (W:World)=>F8 (w:=W) x 4 x0 x1 (by decide));obtain ⟨v0,v4⟩:=Ey x (n:=4) (by decide);obtain ⟨v,hv⟩:∃ v:Nat,N4 x 4=(v:Int):=⟨(N4 x 4).toNat,by omega⟩;have ht:BF (IG z nm x)=NM.extract v (v+1):=by
     rw [Hcut.out v (by omega)];unfold IG;rw [if_pos hx0,hv];rfl
    rw [hv] at hpx v0 v4;rw [ht] at H1 H2;have hvs:(NM.extract v (v+1)).size=1:=by rw [Hcut.out v (by omega)];rfl
    obtain ⟨ad,had,q0⟩:=hL.at (HkF.out.trans hkw) hx;subst had;have Q0:=AD q0;clear hx q0 hv ht hxe;go_wp2_with fail
    refine (hcl.out _).mono ?_;rintro e W5 ⟨rfl,k5⟩;have q0:W5.cell? (ad.add i)=some (.int .i64 x):=by
     rw [←Q0.out];have hb:=World.block_lt_of_cell? _ _ Q0.out;simp [World.cell?,k5.block _ hb (by simp)]
    have K5:=AD (hkw.trans k5);have d1:=(HF.out.keeps K5.out).cell 2;simp at d1;clear k5 Q0 hkw;rcases DV i with hi0 | hi0
    ·have Hgr:=AD (H1.out hi0);subst hi0;have q0':W5.cell? ad=some (.int .i64 x):=(by simpa [Addr.add] using q0);generalize atA k (gs.take 0)=tt at *;clear H1 H2 q0;go_wp2_with fail
     refine (hpx.out _).mono ?_;rintro e W7 ⟨rfl,e7⟩;have e8:=e7.symm;subst e8;go_wp2_with fail
     exact ⟨⟨1,by rw [←Hgr.out],by simp,by omega,K5.out⟩,by simp only [intOf];omega⟩
    ·have hi0I:(0:Int)<i:=(by omega);have Hgr:=AD (H2.out hi0);generalize atA k (gs.take i)=tt at *;clear H1 H2;go_wp2_with fail
     refine (hpx.out _).mono ?_;rintro e W7 ⟨rfl,e7⟩;have e8:=e7.symm;subst e8;go_wp2_with fail
     exact ⟨⟨i+1,by rw [←Hgr.out],by simp,by omega,K5.out⟩,by simp only [intOf];omega⟩
   ·obtain ⟨v0,v4⟩:=Ey x (n:=(z:Int)) (by omega);obtain ⟨v,hv⟩:∃ v:Nat,N4 x (z:Int)=(v:Int):=⟨(N4 x (z:Int)).toNat,by omega⟩;have ht:BF (IG z nm x)=Gu v:=by
     unfold IG;rw [if_neg hx0,hv];rfl
    rw [hv] at v0 v4;rw [ht] at H1 H2;have hvs:=PV v;have hit:=AD (fun (W:World)=>HI (v:Int) (by omega) (by omega) W);rw [So (by omega)] at hit;generalize Gu v=dv at *;have hxr:-9223372036854775808≤x∧x≤9223372036854775807:=by
     rcases BL i L.length with q | q
     ·have hx:L[i]?=some x:=by rw [Af,AB q] at hxe;rw [AB q];exact congrArg some hxe
      exact ⟨(hL i x hx).1,(hL i x hx).2.1⟩
     ·rw [Af,Ac q] at hxe;have:(0:Int)=x:=hxe;omega
    have hnum:=AD (fun (W:World)=>KS (w:=W) x (z:Int) hxr.1 hxr.2 (by omega));rw [hv] at hnum;clear hxr ht hv;by_cases hiL:i<L.length
    ·have hiLI:(i:Int)<L.length:=(by omega);have hx:L[i]?=some x:=by rw [Af,AB hiL] at hxe;rw [AB hiL];exact congrArg some hxe
     obtain ⟨ad,had,q0⟩:=hL.at (HkF.out.trans hkw) hx;subst had;have Q0:=AD q0;clear hx q0 hxe;go_wp2_with fail
     refine (hcl.out _).mono ?_;rintro e W5 ⟨rfl,k5⟩;have q0:W5.cell? (ad.add i)=some (.int .i64 x):=by
      rw [←Q0.out];have hb:=World.block_lt_of_cell? _ _ Q0.out;simp [World.cell?,k5.block _ hb (by simp)]
     have K5:=AD (hkw.trans k5);have d1:=(HF.out.keeps K5.out).cell 2;simp at d1;clear k5 Q0 hkw;rcases DV i with hi0 | hi0
     ·have Hgr:=AD (H1.out hi0);subst hi0;have q0':W5.cell? ad=some (.int .i64 x):=(by simpa [Addr.add] using q0);generalize atA k (gs.take 0)=tt at *;clear H1 H2 q0;go_wp2_with fail
      refine (hnum.out _).mono ?_;rintro e W7 ⟨rfl,e7⟩;have e8:=e7.symm;subst e8;go_wp2_with fail
      refine (hit.out _).mono ?_;rintro e W7 ⟨rfl,e7⟩;have e8:=e7.symm;subst e8;go_wp2_with fail
      exact ⟨⟨1,by rw [←Hgr.out],by simp,by omega,K5.out⟩,by simp only [intOf];omega⟩
     ·have hi0I:(0:Int)<i:=(by omega);have Hgr:=AD (H2.out hi0);generalize atA k (gs.take i)=tt at *;clear H1 H2;go_wp2_with fail
      refine (hnum.out _).mono ?_;rintro e W7 ⟨rfl,e7⟩;have e8:=e7.symm;subst e8;go_wp2_with fail
      refine (hit.out _).mono ?_;rintro e W7 ⟨rfl,e7⟩;have e8:=e7.symm;subst e8;go_wp2_with fail
      exact ⟨⟨i+1,by rw [←Hgr.out],by simp,by omega,K5.out⟩,by simp only [intOf];omega⟩
    ·have hiLI:¬ (i:Int)<L.length:=(by omega);have hxz:x=0:=by
      rw [Af,Ac (by omega)] at hxe;exact hxe.symm
     clear hxe;subst hxz;go_wp2_with fail
     refine (hcl.out _).mono ?_;rintro e W5 ⟨rfl,k5⟩;have K5:=AD (hkw.trans k5);have d1:=(HF.out.keeps K5.out).cell 2;simp at d1;clear k5 hkw;rcases DV i with hi0 | hi0
     ·have Hgr:=AD (H1.out hi0);subst hi0;generalize atA k (gs.take 0)=tt at *;clear H1 H2;go_wp2_with fail
      refine (hnum.out _).mono ?_;rintro e W7 ⟨rfl,e7⟩;have e8:=e7.symm;subst e8;go_wp2_with fail
      refine (hit.out _).mono ?_;rintro e W7 ⟨rfl,e7⟩;have e8:=e7.symm;subst e8;go_wp2_with fail
      exact ⟨⟨1,by rw [←Hgr.out],by simp,by omega,K5.out⟩,by simp only [intOf];omega⟩
     ·have hi0I:(0:Int)<i:=(by omega);have Hgr:=AD (H2.out hi0);generalize atA k (gs.take i)=tt at *;clear H1 H2;go_wp2_with fail
      refine (hnum.out _).mono ?_;rintro e W7 ⟨rfl,e7⟩;have e8:=e7.symm;subst e8;go_wp2_with fail
      refine (hit.out _).mono ?_;rintro e W7 ⟨rfl,e7⟩;have e8:=e7.symm;subst e8;go_wp2_with fail
      exact ⟨⟨i+1,by rw [←Hgr.out],by simp,by omega,K5.out⟩,by simp only [intOf];omega⟩
  ·have hiI:¬ (i:Int)<n:=(by omega);have hin2:i=n:=(by omega);subst hin2;have hgt:gs.take i=gs:=by rw [BD (by have:=Hcl3.out;omega)]
   rw [hgt] at hsz8 ⊢;clear hgt hszl;have Hfin:Hid (atA k (FA z nm L k)=atA k gs):=AD (by rw [Hgs.out]);generalize atA k gs=tt at *;go_wp2_with fail
   refine (hcl.out _).mono ?_;rintro e W5 ⟨rfl,k5⟩;go_wp2_with fail
   go_ret
   exact ⟨by rw [Hfin.out];rfl,(HkF.out.trans hkw).trans k5⟩
theorem BV {w w':World} {T:List Nat} (k:AA T w w') {a:Addr} {v:Value} (h:w.cell? a=some v) (ha:a.block∉T:=by simp):w'.cell? a=some v:=by
 have hb:=World.block_lt_of_cell? w _ h;rw [←h];simp [World.cell?,k.block _ hb ha]
theorem Io.keeps {w w':World} {av:Option Addr} {L:List Int} (h:Io w av L) (k:AA [] w w'):Io w' av L:=fun i x hx=>⟨(h i x hx).1,(h i x hx).2.1,h.at k hx⟩
structure YK (w:World) (g o:Nat) (l:Do):Prop where
 c0:w.cell? ⟨g,o,none⟩=some (.int .i64 l.rel)
 c1:w.cell? ⟨g,o+1,none⟩=some (.bool l.no)
 c2:w.cell? ⟨g,o+2,none⟩=some (.slice l.av l.L.length l.cap)
theorem YK.keeps {w w':World} {g o:Nat} {l:Do} {T:List Nat} (h:YK w g o l) (k:AA T w w') (hg:g∉T:=by simp):YK w' g o l:=⟨BV k h.c0 hg,BV k h.c1 hg,BV k h.c2 hg⟩
structure Mc (w:World) (l:Do):Prop where
 lo:-9223372036854775808≤l.rel
 hi:l.rel≤9223372036854775807
 ints:Io w l.av l.L
theorem Mc.keeps {w w':World} {l:Do} (h:Mc w l) (k:AA [] w w'):Mc w' l:=⟨h.lo,h.hi,h.ints.keeps k⟩
def NI (w:World) (av:Option Addr) (ls:List Do):Prop:=∀ (i:Nat) (l:Do),ls[i]?=some l→Mc w l∧∃ g o,av=some ⟨g,o,none⟩∧YK w g (o+i * 3) l
theorem NI.keeps {w w':World} {av:Option Addr} {ls:List Do} (h:NI w av ls) (k:AA [] w w'):NI w' av ls:=fun i l hl=>by
 obtain ⟨a,g,o,e,b⟩:=h i l hl;exact ⟨a.keeps k,g,o,e,b.keeps k⟩
def Mj (z:Nat) (nm:List UInt8) (h:Do) (ls:List Do):ByteArray:=ba (Ah (Eb z nm h++GM z nm ls))
theorem Yr {z:Nat} {nm:List UInt8} {h l:Do}:(l.no=false→Mj z nm h []++ba [32,58,45,32]++ba (Ah (Eb z nm l))=Mj z nm h [l])∧(l.no=true→Mj z nm h []++ba [32,58,45,32]++ba [33]++ba (Ah (Eb z nm l))=Mj z nm h [l]):=by
 unfold Mj;refine ⟨fun e=>?_,fun e=>?_⟩
 ·rw [Dx,Dx];simp [GM,Ii,e,Ej,Ah,Iw,Cy,BF]
 ·rw [Dx,Dx,Dx];simp [GM,Ii,e,Ej,Ah,Iw,Cy,BF]
theorem bA {z:Nat} {nm:List UInt8} {h l:Do} {ls:List Do} (hne:ls≠[]):(l.no=false→Mj z nm h ls++ba [44,32]++ba (Ah (Eb z nm l))=Mj z nm h (ls++[l]))∧(l.no=true→Mj z nm h ls++ba [44,32]++ba [33]++ba (Ah (Eb z nm l))=Mj z nm h (ls++[l])):=by
 cases ls with
 | nil=>exact absurd rfl hne
 | cons a ls=>
  unfold Mj;refine ⟨fun e=>?_,fun e=>?_⟩
  ·rw [Dx,Dx];simp [GM,Ii,e,Ej,Ah,Iw,Cy,BF]
  ·rw [Dx,Dx,Dx];simp [GM,Ii,e,Ej,Ah,Iw,Cy,BF]
theorem gZ (z:Nat) (nm:List UInt8) (h:Do) (ls:List Do):Mj z nm h ls++ba [46]=ba (Ah (FU z nm h ls)):=by
 unfold Mj FU;rw [Dx,BQ _ [.t .dot]];rfl
theorem aZ (z:Nat) (nm:List UInt8) (h:Do) (ls:List Do):(Mj z nm h ls).size≤12+17 * ls.length:=by
 unfold Mj;rw [D5,BQ,AN];have h1:=LB z nm h;have h2:=RG z nm ls;omega
theorem Rt (w:World) {h:Do} (hh:Mc w h) {ad:Option Addr} {ls:List Do} {bc:Nat} (hls:NI w ad ls) {z:Nat} (hz:1≤z) (hz8:z≤8) {nm:List UInt8} (hn4:nm.length=4):Calls prog 42 #[.agg #[.int .i64 h.rel,.bool h.no,.slice h.av h.L.length h.cap,.slice ad ls.length bc],.int .i64 (z:Int),.string (ba nm),.bool false] w fun e w'=>e=.returned (.string (ba (Ah (FU z nm h (ls.take 4)))))∧AA [] w w':=by
 obtain ⟨M,hM⟩:∃ M,ls.length=M:=⟨_,rfl⟩;obtain ⟨n,hn⟩:∃ n,(n=4∧4<M)∨(n=M∧¬ 4<M):=by
  by_cases h:4<M
  ·exact ⟨4,.inl ⟨rfl,h⟩⟩
  ·exact ⟨M,.inr ⟨rfl,h⟩⟩
 have htk:ls.take 4=ls.take n:=by
  rcases hn with ⟨h1,_⟩ | ⟨h1,h2⟩
  ·rw [h1]
  ·rw [BD (by omega),BD (by omega)]
 rw [htk];clear htk;have HM:=AD hM;rw [hM];clear hM;have kF:=AA.alloc [] w (.cells #[.int .i64 h.rel,.bool h.no,.slice h.av h.L.length h.cap,.slice ad M bc] 62);have hF:=AM.new w #[.int .i64 h.rel,.bool h.no,.slice h.av h.L.length h.cap,.slice ad M bc] 62;have d0:=hF.cell 0;have d1:=hF.cell 1;have d2:=hF.cell 2;have d3:=hF.cell 3;simp at d0 d1 d2 d3;have hat:=AD (fun (W:World) (k:AA [] w W) (l:Do) (hl:Mc w l)=>TG W l.rel l.no (cap:=l.cap) hl.lo hl.hi (hl.ints.keeps k) hz hz8 hn4);have ha0:=AD (fun (W:World) (k:AA [] w W)=>hat.out W k h hh);have Hend:=AD (gZ z nm h (ls.take n));have HA0:Hid (ba (Ah (Eb z nm h))=Mj z nm h []):=AD (by unfold Mj;simp [GM]);have Hsz:=AD (aZ z nm h);have Hf1:=AD (fun l=>Yr (z:=z) (nm:=nm) (h:=h) (l:=l));have Hm1:=AD (fun l ls hne=>bA (z:=z) (nm:=nm) (h:=h) (l:=l) (ls:=ls) hne);rw [HA0.out] at ha0;rw [←Hend.out];have HF:=AD hF;have KF:=AD kF;have Hls:=AD hls;clear hF kF hh hls hn4 HA0 Hend;have e1:({ data:=#[32,58,45,32] }:ByteArray)=ba [32,58,45,32]:=rfl;have e2:({ data:=#[44,32] }:ByteArray)=ba [44,32]:=rfl;have e3:({ data:=#[33] }:ByteArray)=ba [33]:=rfl;have e4:({ data:=#[46] }:ByteArray)=ba [46]:=rfl;go_in
 simp only [e1,e2,e3,e4];clear e1 e2 e3 e4;generalize hp1:ba [32,58,45,32]=t1 at *;generalize hp2:ba [44,32]=t2 at *;generalize hp3:ba [33]=t3 at *;generalize hp4:ba [46]=t4 at *;have s1:t1.size=4:=by rw [←hp1];rfl
 have s2:t2.size=2:=by rw [←hp2];rfl
 have s3:t3.size=1:=by rw [←hp3];rfl
 have s4:t4.size=1:=by rw [←hp4];rfl
 clear hp1 hp2 hp3 hp4;generalize ba nm=NM at *;go_wp2_with fail
 refine (ha0.out _ KF.out).mono ?_;rintro e W1 ⟨rfl,k1⟩;have q3:=(HF.out.keeps k1).cell 3;simp at q3;clear d0 d1 d2 d3;have K1:=AD (KF.out.trans k1);have HF1:=AD (HF.out.keeps k1);clear k1 KF HF;have Hn:=AD hn;by_cases h4:4<M
 all_goals
  first | have h4I:(4:Int)<M:=by omega | have h4I:¬ (4:Int)<M:=by omega
  clear hn;go_wp2_with fail
  go_loopw [9,11] (fun y q wr=>∃ (i:Nat),y=.string (Mj z nm h (ls.take i))∧q=.int .i64 i∧i≤n∧AA [] W1 wr) (fun _ q _=>((n:Int) - intOf q).toNat)
  case atStart=>exact ⟨0,rfl,rfl,by omega,AA.refl _ _⟩
  case round=>
   obtain ⟨i,rfl,rfl,hi,hkw⟩:=hrel;have hszl:(ls.take i).length=i:=by rw [A5,Cv (by have:=HM.out;have:=Hn.out;omega)]
   have hsz8:(Mj z nm h (ls.take i)).size≤80:=by have:=Hsz.out (ls.take i);have:=Hn.out;omega
   have q4:=(HF1.out.keeps hkw).cell 3;simp at q4;by_cases hin:i<n
   ·have hiI:(i:Int)<4:=by have:=Hn.out;omega
    have hiM:(i:Int)<M:=by have:=Hn.out;omega
    obtain ⟨l,hl⟩:∃ l,ls[i]?=some l:=⟨_,AB (by have:=HM.out;have:=Hn.out;omega)⟩;obtain ⟨lok,g,o,had,hla⟩:=Hls.out i l hl;subst had;have hl2:=hla.keeps (K1.out.trans hkw);have p0:=hl2.c0;have p1:=hl2.c1;have p2:=hl2.c2;have hal:=AD (fun (W:World) (k:AA [] w W)=>hat.out W k l lok);have htk:ls.take (i+1)=ls.take i++[l]:=by rw [An,hl];rfl
    have sal:(ba (Ah (Eb z nm l))).size≤12:=by rw [D5];exact LB z nm l
    have kC:=AA.alloc [] wr (.cells #[.int .i64 l.rel,.bool l.no,.slice l.av l.L.length l.cap] 59);have KC:=AD ((K1.out.trans hkw).trans kC);have KW:=AD (hkw.trans kC);have G1:Hid (i=0→(l.no=false→Mj z nm h (ls.take i)++t1++ba (Ah (Eb z nm l))=Mj z nm h (ls.take (i+1)))∧(l.no=true→Mj z nm h (ls.take i)++t1++t3++ba (Ah (Eb z nm l))=Mj z nm h (ls.take (i+1)))):=AD (fun e=>by subst e;rw [htk];exact Hf1.out l);have G2:Hid (0<i→(l.no=false→Mj z nm h (ls.take i)++t2++ba (Ah (Eb z nm l))=Mj z nm h (ls.take (i+1)))∧(l.no=true→Mj z nm h (ls.take i)++t2++t3++ba (Ah (Eb z nm l))=Mj z nm h (ls.take (i+1)))):=AD (fun e=>by rw [htk];exact Hm1.out l (ls.take i) (by intro q;rw [q] at hszl;simp at hszl;omega));obtain ⟨lr,ln,lav,lL,lc⟩:=l;clear hla hl2 hl kC htk hkw lok hszl;dsimp only at *;generalize ba (Ah (Eb z nm ⟨lr,ln,lav,lL,lc⟩))=tk at *;rcases DV i with hi0 | hi0
    ·have g:=G1.out hi0;subst hi0;simp only [D6,CB] at p0 p1 p2;generalize Mj z nm h (ls.take 0)=tt at *;cases ln with
     | false=>
      have Hg:=AD (g.1 rfl);clear g G1 G2;go_wp2_with fail
      refine (hal.out _ KC.out).mono ?_;rintro e W5 ⟨rfl,k5⟩;go_wp2_with fail
      exact ⟨⟨1,by rw [←Hg.out],by simp,by omega,KW.out.trans k5⟩,by simp only [intOf];omega⟩
     | true=>
      have Hg:=AD (g.2 rfl);clear g G1 G2;go_wp2_with fail
      refine (hal.out _ KC.out).mono ?_;rintro e W5 ⟨rfl,k5⟩;go_wp2_with fail
      exact ⟨⟨1,by rw [←Hg.out],by simp,by omega,KW.out.trans k5⟩,by simp only [intOf];omega⟩
    ·have g:=G2.out hi0;have hi0I:¬ (i:Int)=0:=(by omega);generalize Mj z nm h (ls.take i)=tt at *;cases ln with
     | false=>
      have Hg:=AD (g.1 rfl);clear g G1 G2;go_wp2_with fail
      refine (hal.out _ KC.out).mono ?_;rintro e W5 ⟨rfl,k5⟩;go_wp2_with fail
      exact ⟨⟨i+1,by rw [←Hg.out],by simp,by omega,KW.out.trans k5⟩,by simp only [intOf];omega⟩
     | true=>
      have Hg:=AD (g.2 rfl);clear g G1 G2;go_wp2_with fail
      refine (hal.out _ KC.out).mono ?_;rintro e W5 ⟨rfl,k5⟩;go_wp2_with fail
      exact ⟨⟨i+1,by rw [←Hg.out],by simp,by omega,KW.out.trans k5⟩,by simp only [intOf];omega⟩
   ·have hin2:i=n:=(by omega);subst hin2;try have hiA:¬ (i:Int)<4:=by have:=Hn.out;omega
    try have hiB:¬ (i:Int)<M:=by have:=Hn.out;omega
    go_wp2_with fail
    go_ret
    exact ⟨rfl,K1.out.trans hkw⟩
end
end Go.Proofs.YtgjomknpjigkhaaGreatDoor
