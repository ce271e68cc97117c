import Derived.Test.YtgjomknpjigkhaaGreatDoorZ33
namespace Go.Proofs.YtgjomknpjigkhaaGreatDoor
open Go.Proofs.Tryz
set_option maxRecDepth 100000
set_option maxHeartbeats 4000000
section
open Go.RowKit Go.Shelf
attribute [local go_sem] Oper.semAt_some
def Ma (k:Nat) (gs:List Sg):ByteArray:=ba (Ae (Jd k gs))
theorem Zh (k:Nat):Ij k++ba [40]=Ma k []:=by
 rw [Ri,DU];unfold Ma Jd P0;rw [CJ,CJ];simp [Iz,Cd,BB,ba,Ae,Ga]
theorem jT (k:Nat) (g:Sg):Ma k []++BB g=Ma k [g]:=by
 rw [←eJ];unfold Ma;rw [DU];simp [Jd,Ga,E0,Ae,Iz]
theorem eR {k:Nat} {gs:List Sg} (h:gs≠[]) (g:Sg):Ma k gs++ba [44,32]++BB g=Ma k (gs++[g]):=by
 cases gs with
 | nil=>exact absurd rfl h
 | cons a gs=>
  rw [←eJ];unfold Ma;rw [DU,DU];have e:Jd k (a :: gs++[g])=Jd k (a :: gs)++[.t .comma,.sp,.t g]:=by simp [Jd,Ga,E0]
  rw [e,Ay];have e2:Ae [.t .comma,.sp,.t g]=[44,32]++Cd g:=by simp [Ae,Iz,Cd,BB]
  rw [e2,Ab]
theorem jU (k:Nat) (gs:List Sg):Ma k gs++ba [41]=ba (Ae (Jd k gs++[.t .rp])):=by
 unfold Ma;rw [DU,Ay];rfl
theorem eQ {k:Nat} {gs:List Sg} (h:∀ g∈gs,(Cd g).length≤1):(Ma k gs).size≤2+3 * gs.length:=by
 unfold Ma;rw [C9];exact Q1 k gs h
theorem bV {nm:List UInt8} (h4:nm.length=4) {v:Nat} (hv:v<4):(ba nm).extract v (v+1)=ba [nm.getD v 0]:=by
 apply Lf;rw [DM,Dd];match nm,h4 with
 | [a,b,c,d],_=>
  have:v=0∨v=1∨v=2∨v=3:=by omega
  rcases this with rfl | rfl | rfl | rfl <;> rfl
theorem MQ (w:World) (rel:Int) (no:Bool) {av:Option Addr} {L:List Int} {cap:Nat} (r0:-9223372036854775808≤rel) (r1:rel≤9223372036854775807) (hL:IZ w av L) {z:Nat} (hz:1≤z) (hz8:z≤8) {nm:List UInt8} (hn4:nm.length=4):Calls prog 82 #[.agg #[.int .i64 rel,.bool no,.slice av L.length cap],.int .i64 (z:Int),.string (ba nm)] w fun e w'=>e=.returned (.string (ba (Ae (Di z nm ⟨rel,no,av,L,cap⟩))))∧AA [] w w':=by
 have hend:∀ k,kOf rel=k→ba (Ae (Di z nm ⟨rel,no,av,L,cap⟩))=Ma k (EE z nm L k)++ba [41]:=fun k hk=>by
  rw [jU];unfold Di;rw [←hk]
 have hpk:=AD (fun (W:World)=>Fp (w:=W) rel 4 r0 r1 (by decide));rw [WV] at hpk;have hk4:=IU rel;generalize kOf rel=k at *;rw [hend k rfl];clear hend;have hrl:=AD (fun (W:World)=>I9 W);have hcl:=AD (fun (W:World)=>Gf W hk4);have kF:=AA.alloc [] w (.cells #[.int .i64 rel,.bool no,.slice av L.length cap] 59);have hF:=AK.new w #[.int .i64 rel,.bool no,.slice av L.length cap] 59;have d0:=hF.cell 0;simp at d0;have HF:=AD hF;have HkF:=AD kF;clear hF kF r0 r1;have snm:(ba nm).size=4:=hn4;have Hcut:=AD (fun (v:Nat) (hv:v<4)=>bV hn4 hv);have e1:({ data:=#[40] }:ByteArray)=ba [40]:=rfl;have e2:({ data:=#[44,32] }:ByteArray)=ba [44,32]:=rfl;have e3:({ data:=#[41] }:ByteArray)=ba [41]:=rfl;generalize hnb:ba nm=NM at *;have Hnb:=AD hnb;clear hnb hn4;go_in
 simp only [e1,e2,e3];clear e1 e2 e3;generalize hp1:ba [40]=t1 at *;generalize hp2:ba [44,32]=t2 at *;generalize hp3:ba [41]=t3 at *;have s1:t1.size=1:=by rw [←hp1];rfl
 have s2:t2.size=2:=by rw [←hp2];rfl
 have s3:t3.size=1:=by rw [←hp3];rfl
 have P1:=AD hp1;have P2:=AD hp2;have P3:=AD hp3;clear hp1 hp2 hp3;go_wp2_with fail
 refine (hpk.out _).mono ?_;rintro e W1 ⟨rfl,e1⟩;subst e1;go_wp2_with fail
 have zF:=AX w (.cells #[.int .i64 rel,.bool no,.slice av L.length cap] 59);generalize w.alloc (.cells #[.int .i64 rel,.bool no,.slice av L.length cap] 59)=WF at *;refine (hrl.out _).mono ?_;rintro e W2 ⟨rfl,hcs,k2⟩;have ZF:=AD zF;clear zF;have q1:=hcs k hk4;have hkI:(k:Int)<4:=by omega
 have s4:(Ij k).size=1:=by rw [Ri];unfold IQ;split <;> rfl
 have hst:=Zh k;rw [P1.out] at hst;have Hst:=AD hst;obtain ⟨gs,hgs⟩:∃ gs,EE z nm L k=gs:=⟨_,rfl⟩;have hcl3:gs.length=relK k:=by rw [←hgs];simp [EE]
 have hck3:relK k≤3:=(FX k).2;have hcat:∀ i,i<relK k→gs[i]?=some (Er z nm (L.getD i 0)):=fun i hi=>by rw [←hgs];simp [EE,hi]
 have hone:∀ g∈gs,(Cd g).length≤1:=by rw [←hgs];exact NB z nm L k
 have Hgs:=AD hgs;have Hcat:=AD hcat;have Hcl3:=AD hcl3;have Hone:=AD hone;have K2:=AD k2;clear hcs hst hgs hcat hcl3 k2 hone;generalize hnm:Ij k=nk at *;clear hnm;go_wp2_with fail
 rw [Hst.out];clear q1 d0 s4;obtain ⟨n,hn⟩:∃ n,relK k=n:=⟨_,rfl⟩;rw [hn] at hcl Hcat Hcl3 hck3;clear hn;go_loopw [8,9] (fun y q wr=>∃ (i:Nat),y=.string (Ma k (gs.take i))∧q=.int .i64 i∧i≤n∧AA [] WF wr) (fun _ q _=>((n:Int) - intOf q).toNat)
 case atStart=>exact ⟨0,rfl,rfl,by omega,K2.out⟩
 case round=>
  obtain ⟨i,rfl,rfl,hi,hkw⟩:=hrel;have hsz:=eQ (k:=k) (gs:=gs.take i) (fun g hg=>Hone.out g (List.mem_of_mem_take hg));have hszl:(gs.take i).length=i:=by rw [BH,CA (by have:=Hcl3.out;omega)]
  have hsz8:(Ma k (gs.take i)).size≤20:=by omega
  clear hsz;by_cases hin:i<n
  ·have hiI:(i:Int)<n:=(by omega);obtain ⟨x,hxe⟩:∃ x,L.getD i 0=x:=⟨_,rfl⟩;have hci:=Hcat.out i hin;rw [hxe] at hci;have htk:gs.take (i+1)=gs.take i++[Er z nm x]:=by rw [An,hci];rfl
   have h1:i=0→Ma k (gs.take i)++BB (Er z nm x)=Ma k (gs.take (i+1)):=fun e=>by subst e;rw [htk];exact jT k _
   have h2:0<i→Ma k (gs.take i)++t2++BB (Er z nm x)=Ma k (gs.take (i+1)):=fun e=>by rw [htk,←P2.out];exact eR (by intro q;rw [q] at hszl;simp at hszl;omega) _
   have H1:=AD h1;have H2:=AD h2;clear hci htk h1 h2 hszl;by_cases hx0:x<0
   ·have hiL:i<L.length:=by
     rcases BP i L.length with q | q
     ·exact q
     ·rw [Ad,Af q] at hxe;have:(0:Int)=x:=hxe;omega
    have hiLI:(i:Int)<L.length:=(by omega);have hx:L[i]?=some x:=by rw [Ad,AB hiL] at hxe;rw [AB hiL];exact congrArg some hxe
    obtain ⟨x0,x1,_⟩:=hL i x hx;have hpx:=AD (fun (W:World)=>Fp (w:=W) x 4 x0 x1 (by decide));obtain ⟨v0,v4⟩:=Ec x (n:=4) (by decide);obtain ⟨v,hv⟩:∃ v:Nat,LP x 4=(v:Int):=⟨(LP x 4).toNat,by omega⟩;have ht:BB (Er z nm x)=NM.extract v (v+1):=by
     rw [Hcut.out v (by omega)];unfold Er;rw [if_pos hx0,hv];rfl
    rw [hv] at hpx v0 v4;rw [ht] at H1 H2;have hvs:(NM.extract v (v+1)).size=1:=by rw [Hcut.out v (by omega)];rfl
    obtain ⟨ad,had,q0⟩:=hL.at (HkF.out.trans hkw) hx;subst had;have Q0:=AD q0;clear hx q0 hv ht hxe;go_wp2_with fail
    refine (hcl.out _).mono ?_;rintro e W5 ⟨rfl,k5⟩;have q0:W5.cell? (ad.add i)=some (.int .i64 x):=by
     rw [←Q0.out];have hb:=World.block_lt_of_cell? _ _ Q0.out;simp [World.cell?,k5.block _ hb (by simp)]
    have K5:=AD (hkw.trans k5);have d1:=(HF.out.keeps K5.out).cell 2;simp at d1;clear k5 Q0 hkw;rcases C1 i with hi0 | hi0
    ·have Hgr:=AD (H1.out hi0);subst hi0;have q0':W5.cell? ad=some (.int .i64 x):=(by simpa [Addr.add] using q0);generalize Ma k (gs.take 0)=tt at *;clear H1 H2 q0;go_wp2_with fail
     refine (hpx.out _).mono ?_;rintro e W7 ⟨rfl,e7⟩;have e8:=e7.symm;subst e8;go_wp2_with fail
     exact ⟨⟨1,by rw [←Hgr.out],by simp,by omega,K5.out⟩,by simp only [intOf];omega⟩
    ·have hi0I:(0:Int)<i:=(by omega);have Hgr:=AD (H2.out hi0);generalize Ma k (gs.take i)=tt at *;clear H1 H2;go_wp2_with fail
     refine (hpx.out _).mono ?_;rintro e W7 ⟨rfl,e7⟩;have e8:=e7.symm;subst e8;go_wp2_with fail
     exact ⟨⟨i+1,by rw [←Hgr.out],by simp,by omega,K5.out⟩,by simp only [intOf];omega⟩
   ·obtain ⟨v0,v4⟩:=Ec x (n:=(z:Int)) (by omega);obtain ⟨v,hv⟩:∃ v:Nat,LP x (z:Int)=(v:Int):=⟨(LP x (z:Int)).toNat,by omega⟩;have ht:BB (Er z nm x)=GZ v:=by
     unfold Er;rw [if_neg hx0,hv];rfl
    rw [hv] at v0 v4;rw [ht] at H1 H2;have hvs:=PF v;have hit:=AD (fun (W:World)=>G0 (v:Int) (by omega) (by omega) W);rw [SX (by omega)] at hit;generalize GZ v=dv at *;have hxr:-9223372036854775808≤x∧x≤9223372036854775807:=by
     rcases BP i L.length with q | q
     ·have hx:L[i]?=some x:=by rw [Ad,AB q] at hxe;rw [AB q];exact congrArg some hxe
      exact ⟨(hL i x hx).1,(hL i x hx).2.1⟩
     ·rw [Ad,Af q] at hxe;have:(0:Int)=x:=hxe;omega
    have hnum:=AD (fun (W:World)=>J3 (w:=W) x (z:Int) hxr.1 hxr.2 (by omega));rw [hv] at hnum;clear hxr ht hv;by_cases hiL:i<L.length
    ·have hiLI:(i:Int)<L.length:=(by omega);have hx:L[i]?=some x:=by rw [Ad,AB hiL] at hxe;rw [AB hiL];exact congrArg some hxe
     obtain ⟨ad,had,q0⟩:=hL.at (HkF.out.trans hkw) hx;subst had;have Q0:=AD q0;clear hx q0 hxe;go_wp2_with fail
     refine (hcl.out _).mono ?_;rintro e W5 ⟨rfl,k5⟩;have q0:W5.cell? (ad.add i)=some (.int .i64 x):=by
      rw [←Q0.out];have hb:=World.block_lt_of_cell? _ _ Q0.out;simp [World.cell?,k5.block _ hb (by simp)]
     have K5:=AD (hkw.trans k5);have d1:=(HF.out.keeps K5.out).cell 2;simp at d1;clear k5 Q0 hkw;rcases C1 i with hi0 | hi0
     ·have Hgr:=AD (H1.out hi0);subst hi0;have q0':W5.cell? ad=some (.int .i64 x):=(by simpa [Addr.add] using q0);generalize Ma k (gs.take 0)=tt at *;clear H1 H2 q0;go_wp2_with fail
      refine (hnum.out _).mono ?_;rintro e W7 ⟨rfl,e7⟩;have e8:=e7.symm;subst e8;go_wp2_with fail
      refine (hit.out _).mono ?_;rintro e W7 ⟨rfl,e7⟩;have e8:=e7.symm;subst e8;go_wp2_with fail
      exact ⟨⟨1,by rw [←Hgr.out],by simp,by omega,K5.out⟩,by simp only [intOf];omega⟩
     ·have hi0I:(0:Int)<i:=(by omega);have Hgr:=AD (H2.out hi0);generalize Ma k (gs.take i)=tt at *;clear H1 H2;go_wp2_with fail
      refine (hnum.out _).mono ?_;rintro e W7 ⟨rfl,e7⟩;have e8:=e7.symm;subst e8;go_wp2_with fail
      refine (hit.out _).mono ?_;rintro e W7 ⟨rfl,e7⟩;have e8:=e7.symm;subst e8;go_wp2_with fail
      exact ⟨⟨i+1,by rw [←Hgr.out],by simp,by omega,K5.out⟩,by simp only [intOf];omega⟩
    ·have hiLI:¬ (i:Int)<L.length:=(by omega);have hxz:x=0:=by
      rw [Ad,Af (by omega)] at hxe;exact hxe.symm
     clear hxe;subst hxz;go_wp2_with fail
     refine (hcl.out _).mono ?_;rintro e W5 ⟨rfl,k5⟩;have K5:=AD (hkw.trans k5);have d1:=(HF.out.keeps K5.out).cell 2;simp at d1;clear k5 hkw;rcases C1 i with hi0 | hi0
     ·have Hgr:=AD (H1.out hi0);subst hi0;generalize Ma k (gs.take 0)=tt at *;clear H1 H2;go_wp2_with fail
      refine (hnum.out _).mono ?_;rintro e W7 ⟨rfl,e7⟩;have e8:=e7.symm;subst e8;go_wp2_with fail
      refine (hit.out _).mono ?_;rintro e W7 ⟨rfl,e7⟩;have e8:=e7.symm;subst e8;go_wp2_with fail
      exact ⟨⟨1,by rw [←Hgr.out],by simp,by omega,K5.out⟩,by simp only [intOf];omega⟩
     ·have hi0I:(0:Int)<i:=(by omega);have Hgr:=AD (H2.out hi0);generalize Ma k (gs.take i)=tt at *;clear H1 H2;go_wp2_with fail
      refine (hnum.out _).mono ?_;rintro e W7 ⟨rfl,e7⟩;have e8:=e7.symm;subst e8;go_wp2_with fail
      refine (hit.out _).mono ?_;rintro e W7 ⟨rfl,e7⟩;have e8:=e7.symm;subst e8;go_wp2_with fail
      exact ⟨⟨i+1,by rw [←Hgr.out],by simp,by omega,K5.out⟩,by simp only [intOf];omega⟩
  ·have hiI:¬ (i:Int)<n:=(by omega);have hin2:i=n:=(by omega);subst hin2;have hgt:gs.take i=gs:=by rw [A9 (by have:=Hcl3.out;omega)]
   rw [hgt] at hsz8 ⊢;clear hgt hszl;have Hfin:Hid (Ma k (EE z nm L k)=Ma k gs):=AD (by rw [Hgs.out]);generalize Ma k gs=tt at *;go_wp2_with fail
   refine (hcl.out _).mono ?_;rintro e W5 ⟨rfl,k5⟩;go_wp2_with fail
   go_ret
   exact ⟨by rw [Hfin.out];rfl,(HkF.out.trans hkw).trans k5⟩
theorem Bb {w w':World} {T:List Nat} (k:AA T w w') {a:Addr} {v:Value} (h:w.cell? a=some v) (ha:a.block∉T:=by simp):w'.cell? a=some v:=by
 have hb:=World.block_lt_of_cell? w _ h;rw [←h];simp [World.cell?,k.block _ hb ha]
theorem IZ.keeps {w w':World} {av:Option Addr} {L:List Int} (h:IZ w av L) (k:AA [] w w'):IZ w' av L:=fun i x hx=>⟨(h i x hx).1,(h i x hx).2.1,h.at k hx⟩
structure X7 (w:World) (g o:Nat) (l:Bu):Prop where
 c0:w.cell? ⟨g,o,none⟩=some (.int .i64 l.rel)
 c1:w.cell? ⟨g,o+1,none⟩=some (.bool l.no)
 c2:w.cell? ⟨g,o+2,none⟩=some (.slice l.av l.L.length l.cap)
theorem X7.keeps {w w':World} {g o:Nat} {l:Bu} {T:List Nat} (h:X7 w g o l) (k:AA T w w') (hg:g∉T:=by simp):X7 w' g o l:=⟨Bb k h.c0 hg,Bb k h.c1 hg,Bb k h.c2 hg⟩
structure KT (w:World) (l:Bu):Prop where
 lo:-9223372036854775808≤l.rel
 hi:l.rel≤9223372036854775807
 ints:IZ w l.av l.L
theorem KT.keeps {w w':World} {l:Bu} (h:KT w l) (k:AA [] w w'):KT w' l:=⟨h.lo,h.hi,h.ints.keeps k⟩
def Ll (w:World) (av:Option Addr) (ls:List Bu):Prop:=∀ (i:Nat) (l:Bu),ls[i]?=some l→KT w l∧∃ g o,av=some ⟨g,o,none⟩∧X7 w g (o+i * 3) l
theorem Ll.keeps {w w':World} {av:Option Addr} {ls:List Bu} (h:Ll w av ls) (k:AA [] w w'):Ll w' av ls:=fun i l hl=>by
 obtain ⟨a,g,o,e,b⟩:=h i l hl;exact ⟨a.keeps k,g,o,e,b.keeps k⟩
def Ib (z:Nat) (nm:List UInt8) (h:Bu) (ls:List Bu):ByteArray:=ba (Ae (Di z nm h++FQ z nm ls))
theorem QX {z:Nat} {nm:List UInt8} {h l:Bu}:(l.no=false→Ib z nm h []++ba [32,58,45,32]++ba (Ae (Di z nm l))=Ib z nm h [l])∧(l.no=true→Ib z nm h []++ba [32,58,45,32]++ba [33]++ba (Ae (Di z nm l))=Ib z nm h [l]):=by
 unfold Ib;refine ⟨fun e=>?_,fun e=>?_⟩
 ·rw [DU,DU];simp [FQ,GH,e,EZ,Ae,Iz,Cd,BB]
 ·rw [DU,DU,DU];simp [FQ,GH,e,EZ,Ae,Iz,Cd,BB]
theorem Tb {z:Nat} {nm:List UInt8} {h l:Bu} {ls:List Bu} (hne:ls≠[]):(l.no=false→Ib z nm h ls++ba [44,32]++ba (Ae (Di z nm l))=Ib z nm h (ls++[l]))∧(l.no=true→Ib z nm h ls++ba [44,32]++ba [33]++ba (Ae (Di z nm l))=Ib z nm h (ls++[l])):=by
 cases ls with
 | nil=>exact absurd rfl hne
 | cons a ls=>
  unfold Ib;refine ⟨fun e=>?_,fun e=>?_⟩
  ·rw [DU,DU];simp [FQ,GH,e,EZ,Ae,Iz,Cd,BB]
  ·rw [DU,DU,DU];simp [FQ,GH,e,EZ,Ae,Iz,Cd,BB]
theorem XZ (z:Nat) (nm:List UInt8) (h:Bu) (ls:List Bu):Ib z nm h ls++ba [46]=ba (Ae (EH z nm h ls)):=by
 unfold Ib EH;rw [DU,Ay _ [.t .dot]];rfl
theorem Ta (z:Nat) (nm:List UInt8) (h:Bu) (ls:List Bu):(Ib z nm h ls).size≤12+17 * ls.length:=by
 unfold Ib;rw [C9,Ay,AJ];have h1:=Iu z nm h;have h2:=Qu z nm ls;omega
theorem Rb (w:World) {h:Bu} (hh:KT w h) {ad:Option Addr} {ls:List Bu} {bc:Nat} (hls:Ll w ad ls) {z:Nat} (hz:1≤z) (hz8:z≤8) {nm:List UInt8} (hn4:nm.length=4):Calls prog 42 #[.agg #[.int .i64 h.rel,.bool h.no,.slice h.av h.L.length h.cap,.slice ad ls.length bc],.int .i64 (z:Int),.string (ba nm),.bool false] w fun e w'=>e=.returned (.string (ba (Ae (EH z nm h (ls.take 4)))))∧AA [] w w':=by
 obtain ⟨M,hM⟩:∃ M,ls.length=M:=⟨_,rfl⟩;obtain ⟨n,hn⟩:∃ n,(n=4∧4<M)∨(n=M∧¬ 4<M):=by
  by_cases h:4<M
  ·exact ⟨4,.inl ⟨rfl,h⟩⟩
  ·exact ⟨M,.inr ⟨rfl,h⟩⟩
 have htk:ls.take 4=ls.take n:=by
  rcases hn with ⟨h1,_⟩ | ⟨h1,h2⟩
  ·rw [h1]
  ·rw [A9 (by omega),A9 (by omega)]
 rw [htk];clear htk;have HM:=AD hM;rw [hM];clear hM;have kF:=AA.alloc [] w (.cells #[.int .i64 h.rel,.bool h.no,.slice h.av h.L.length h.cap,.slice ad M bc] 62);have hF:=AK.new w #[.int .i64 h.rel,.bool h.no,.slice h.av h.L.length h.cap,.slice ad M bc] 62;have d0:=hF.cell 0;have d1:=hF.cell 1;have d2:=hF.cell 2;have d3:=hF.cell 3;simp at d0 d1 d2 d3;have hat:=AD (fun (W:World) (k:AA [] w W) (l:Bu) (hl:KT w l)=>MQ W l.rel l.no (cap:=l.cap) hl.lo hl.hi (hl.ints.keeps k) hz hz8 hn4);have ha0:=AD (fun (W:World) (k:AA [] w W)=>hat.out W k h hh);have Hend:=AD (XZ z nm h (ls.take n));have HA0:Hid (ba (Ae (Di z nm h))=Ib z nm h []):=AD (by unfold Ib;simp [FQ]);have Hsz:=AD (Ta z nm h);have Hf1:=AD (fun l=>QX (z:=z) (nm:=nm) (h:=h) (l:=l));have Hm1:=AD (fun l ls hne=>Tb (z:=z) (nm:=nm) (h:=h) (l:=l) (ls:=ls) hne);rw [HA0.out] at ha0;rw [←Hend.out];have HF:=AD hF;have KF:=AD kF;have Hls:=AD hls;clear hF kF hh hls hn4 HA0 Hend;have e1:({ data:=#[32,58,45,32] }:ByteArray)=ba [32,58,45,32]:=rfl;have e2:({ data:=#[44,32] }:ByteArray)=ba [44,32]:=rfl;have e3:({ data:=#[33] }:ByteArray)=ba [33]:=rfl;have e4:({ data:=#[46] }:ByteArray)=ba [46]:=rfl;go_in
 simp only [e1,e2,e3,e4];clear e1 e2 e3 e4;generalize hp1:ba [32,58,45,32]=t1 at *;generalize hp2:ba [44,32]=t2 at *;generalize hp3:ba [33]=t3 at *;generalize hp4:ba [46]=t4 at *;have s1:t1.size=4:=by rw [←hp1];rfl
 have s2:t2.size=2:=by rw [←hp2];rfl
 have s3:t3.size=1:=by rw [←hp3];rfl
 have s4:t4.size=1:=by rw [←hp4];rfl
 clear hp1 hp2 hp3 hp4;generalize ba nm=NM at *;go_wp2_with fail
 refine (ha0.out _ KF.out).mono ?_;rintro e W1 ⟨rfl,k1⟩;have q3:=(HF.out.keeps k1).cell 3;simp at q3;clear d0 d1 d2 d3;have K1:=AD (KF.out.trans k1);have HF1:=AD (HF.out.keeps k1);clear k1 KF HF;have Hn:=AD hn;by_cases h4:4<M
 all_goals
  first | have h4I:(4:Int)<M:=by omega | have h4I:¬ (4:Int)<M:=by omega
  clear hn;go_wp2_with fail
  go_loopw [9,11] (fun y q wr=>∃ (i:Nat),y=.string (Ib z nm h (ls.take i))∧q=.int .i64 i∧i≤n∧AA [] W1 wr) (fun _ q _=>((n:Int) - intOf q).toNat)
  case atStart=>exact ⟨0,rfl,rfl,by omega,AA.refl _ _⟩
  case round=>
   obtain ⟨i,rfl,rfl,hi,hkw⟩:=hrel;have hszl:(ls.take i).length=i:=by rw [BH,CA (by have:=HM.out;have:=Hn.out;omega)]
   have hsz8:(Ib z nm h (ls.take i)).size≤80:=by have:=Hsz.out (ls.take i);have:=Hn.out;omega
   have q4:=(HF1.out.keeps hkw).cell 3;simp at q4;by_cases hin:i<n
   ·have hiI:(i:Int)<4:=by have:=Hn.out;omega
    have hiM:(i:Int)<M:=by have:=Hn.out;omega
    obtain ⟨l,hl⟩:∃ l,ls[i]?=some l:=⟨_,AB (by have:=HM.out;have:=Hn.out;omega)⟩;obtain ⟨lok,g,o,had,hla⟩:=Hls.out i l hl;subst had;have hl2:=hla.keeps (K1.out.trans hkw);have p0:=hl2.c0;have p1:=hl2.c1;have p2:=hl2.c2;have hal:=AD (fun (W:World) (k:AA [] w W)=>hat.out W k l lok);have htk:ls.take (i+1)=ls.take i++[l]:=by rw [An,hl];rfl
    have sal:(ba (Ae (Di z nm l))).size≤12:=by rw [C9];exact Iu z nm l
    have kC:=AA.alloc [] wr (.cells #[.int .i64 l.rel,.bool l.no,.slice l.av l.L.length l.cap] 59);have KC:=AD ((K1.out.trans hkw).trans kC);have KW:=AD (hkw.trans kC);have G1:Hid (i=0→(l.no=false→Ib z nm h (ls.take i)++t1++ba (Ae (Di z nm l))=Ib z nm h (ls.take (i+1)))∧(l.no=true→Ib z nm h (ls.take i)++t1++t3++ba (Ae (Di z nm l))=Ib z nm h (ls.take (i+1)))):=AD (fun e=>by subst e;rw [htk];exact Hf1.out l);have G2:Hid (0<i→(l.no=false→Ib z nm h (ls.take i)++t2++ba (Ae (Di z nm l))=Ib z nm h (ls.take (i+1)))∧(l.no=true→Ib z nm h (ls.take i)++t2++t3++ba (Ae (Di z nm l))=Ib z nm h (ls.take (i+1)))):=AD (fun e=>by rw [htk];exact Hm1.out l (ls.take i) (by intro q;rw [q] at hszl;simp at hszl;omega));obtain ⟨lr,ln,lav,lL,lc⟩:=l;clear hla hl2 hl kC htk hkw lok hszl;dsimp only at *;generalize ba (Ae (Di z nm ⟨lr,ln,lav,lL,lc⟩))=tk at *;rcases C1 i with hi0 | hi0
    ·have g:=G1.out hi0;subst hi0;simp only [D3,CY] at p0 p1 p2;generalize Ib z nm h (ls.take 0)=tt at *;cases ln with
     | false=>
      have Hg:=AD (g.1 rfl);clear g G1 G2;go_wp2_with fail
      refine (hal.out _ KC.out).mono ?_;rintro e W5 ⟨rfl,k5⟩;go_wp2_with fail
      exact ⟨⟨1,by rw [←Hg.out],by simp,by omega,KW.out.trans k5⟩,by simp only [intOf];omega⟩
     | true=>
      have Hg:=AD (g.2 rfl);clear g G1 G2;go_wp2_with fail
      refine (hal.out _ KC.out).mono ?_;rintro e W5 ⟨rfl,k5⟩;go_wp2_with fail
      exact ⟨⟨1,by rw [←Hg.out],by simp,by omega,KW.out.trans k5⟩,by simp only [intOf];omega⟩
    ·have g:=G2.out hi0;have hi0I:¬ (i:Int)=0:=(by omega);generalize Ib z nm h (ls.take i)=tt at *;cases ln with
     | false=>
      have Hg:=AD (g.1 rfl);clear g G1 G2;go_wp2_with fail
      refine (hal.out _ KC.out).mono ?_;rintro e W5 ⟨rfl,k5⟩;go_wp2_with fail
      exact ⟨⟨i+1,by rw [←Hg.out],by simp,by omega,KW.out.trans k5⟩,by simp only [intOf];omega⟩
     | true=>
      have Hg:=AD (g.2 rfl);clear g G1 G2;go_wp2_with fail
      refine (hal.out _ KC.out).mono ?_;rintro e W5 ⟨rfl,k5⟩;go_wp2_with fail
      exact ⟨⟨i+1,by rw [←Hg.out],by simp,by omega,KW.out.trans k5⟩,by simp only [intOf];omega⟩
   ·have hin2:i=n:=(by omega);subst hin2;try have hiA:¬ (i:Int)<4:=by have:=Hn.out;omega
    try have hiB:¬ (i:Int)<M:=by have:=Hn.out;omega
    go_wp2_with fail
    go_ret
    exact ⟨rfl,K1.out.trans hkw⟩
end
end Go.Proofs.YtgjomknpjigkhaaGreatDoor
