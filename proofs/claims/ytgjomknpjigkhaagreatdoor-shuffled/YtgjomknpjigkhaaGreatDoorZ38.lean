import Derived.Test.YtgjomknpjigkhaaGreatDoorZ36
namespace Go.Proofs.YtgjomknpjigkhaaGreatDoor
open Go.Proofs.Tryz
set_option maxRecDepth 100000
set_option maxHeartbeats 4000000
section
open Go.RowKit Go.Shelf
attribute [local go_sem] Oper.semAt_some
theorem PI (n:Int):(Kn n).size≤2:=by
 unfold Kn;split <;> simp [ByteArray.size]
theorem Yj (k:Nat):(Ij k).size=1:=by unfold Ij;split <;> rfl
theorem Yf {W:World} {g n:Nat} {l:List Nat} (h:KQ W g n l) {j x:Nat} (hj:j<n) (hx:l[j]?=some x):W.cell? ⟨g,j,none⟩=some (.int .i64 (x:Int)):=by
 obtain ⟨cs,h1,h2⟩:=h;have e:=h2.2 j hj;have:W.cell? ⟨g,j,none⟩=cs[j]?:=by
  have h3:W.heap[g]?=_:=h1;simp [World.cell?,h3]
 rw [this,e];dsimp only;rw [Ad,hx];rfl
section
variable {w:World} {lo eb bb:Nat} {B:SB} {S:ST} {gr cr:Nat} {rs:List BF} {tv mv:Value} {ka:Option Addr} {ks:List CluX} {kc z:Nat} {cs:List Ac} {vals:List Nat} {Fs:Nat→List Nat→Prop} {rk:Nat→List Nat→Option Nat}
set_option maxHeartbeats 8000000 in
theorem RF (h:FA w lo bb B S gr cr rs tv mv ka ks kc (BG z cs) vals Fs rk) (hf:Dt (BG z cs)) (he:AK w eb #[.pointer (some ⟨bb,0,none⟩)]) (hin:∀ k,k<4→∀ l r,rk k l=some r→r<100∧∀ x∈l,x<z) (hz8:z≤8) :
  Calls prog 22 #[.pointer (some ⟨eb,0,none⟩)] w fun e w'=>e=.returned (.tuple #[.string (XO rk 4),.bool true])∧AA [] w w':=by
 have htu:=AD (fun (W:World) (k:AA [] w W) (j:Nat) (hj:j<4)=>Js (h.keeps0 k) hf (he.keeps k) (Vv (z:=z) (cs:=cs) hj).2 (Vv hj).1);simp only [BY] at htu;have hrk:=AD (fun (W:World) (k:AA [] w W) (j:Nat) (hj:j<4) (g cap:Nat) (l:List Nat) (hrow:B8 W g (Qq l)) (ht:Q4 (BG z cs) j l)=>JA (cap:=cap) (h.keeps0 k) hf.ok (he.keeps k) (Vv (z:=z) (cs:=cs) hj).2 hrow ht);have hrl:=AD (fun (W:World)=>I9 W);have hit:=AD (fun (W:World) (n:Nat) (hn:n<100)=>G0 (n:Int) (by omega) (by omega) W);have Hin:=AD hin;have Hz8:=AD hz8;clear h hf he hin hz8;go_in
 go_wp2_with fail
 go_loopw [4,5] (fun x q wk=>∃ (k:Nat) (s:ByteArray),q=.int .i64 k∧x=.string s∧k≤4∧s.size≤20000 * k∧Hid (s=XO rk k∧AA [] w wk)) (fun _ q _=>((4:Int) - intOf q).toNat)
 case atStart=>exact ⟨0,_,rfl,rfl,by omega,by simp [ByteArray.size],AD ⟨rfl,AA.refl _ _⟩⟩
 case round=>
  obtain ⟨k,s,rfl,rfl,hk,hsz,hS⟩:=hrel;by_cases hk4:k<4
  ·have hkI:(k:Int)<4:=(by omega);have hcl:=AD (fun (W:World)=>Gf W hk4);go_wp2_with fail
   refine (hrl.out _).mono ?_;rintro e W5 ⟨rfl,hcs,k5⟩;have q1:=hcs k hk4;have K5:=AD (hS.out.2.trans k5);clear hcs k5;go_wp2_with fail
   refine (htu.out _ K5.out k hk4).mono ?_;rintro e W6 ⟨lv,xs,rfl,hxs,hlr,hlt,k6⟩;have K6:=AD (K5.out.trans k6);have Hxs:=AD hxs;have hx512:xs.length≤512:=by
    have e:=congrArg List.length hxs;rw [AY] at e;rw [e];exact At (Bl _ _) (PY _ (FX k).2)
   obtain ⟨la,lc,hlv⟩:=Al hlr;obtain ⟨XL,hXL⟩:∃ XL,xs.length=XL:=⟨_,rfl⟩;rw [hXL] at hx512 hlv hlr;subst hlv;have HXL:=AD hXL;have Hlr:=AD hlr;have Hlt:=AD hlt;clear hxs hlr hlt k6 hXL q1;go_wp2_with fail
   go_loopw [4,8] (fun x q wj=>∃ (i:Nat) (u:ByteArray),q=.int .i64 i∧x=.string u∧i≤XL∧u.size≤20000 * k+20 * i∧Hid (u=lW rk k s ((fP rk k).take i)∧AA [] W6 wj)) (fun _ q _=>((XL:Int) - intOf q).toNat)
   case atStart=>exact ⟨0,s,rfl,rfl,Nat.zero_le _,hsz,AD ⟨rfl,AA.refl _ _⟩⟩
   case round=>
    obtain ⟨i,u,rfl,rfl,hi,husz,hU⟩:=hrel;by_cases hiX:i<XL
    ·have hiI:(i:Int)<XL:=(by omega);obtain ⟨v,hv⟩:∃ v,xs[i]?=some v:=⟨_,AB (by have:=HXL.out;omega)⟩;have hvm:=AE hv;obtain ⟨gl,hla⟩:=Fr Hlr.out (by omega);subst hla;have c0:wr.cell? ⟨gl,i,none⟩=some (.slice (some ⟨v.2,0,none⟩) (relK k) (relK k)):=Bb hU.out.2 (BL Hlr.out (by rw [AW,hv];rfl));have htp:(fP rk k)[i]?=some v.1:=by unfold fP;rw [←Hxs.out,AW,hv];rfl
     obtain ⟨hm1,hm2⟩:=Ai.1 (show v.1∈(DP (relK k)).filter (fun l=>(rk k l).isSome) from AE htp);have hvl:=(GT.1 hm1).1;obtain ⟨r,hr⟩:=Bf.1 hm2;obtain ⟨hr100,hvz⟩:=Hin.out k hk4 v.1 r hr;have hrT:KQ wr v.2 (relK k) v.1:=(Hlt.out v hvm).2.keeps hU.out.2;have hrk1:=AD (fun (W:World) (kk:AA [] wr W)=>hrk.out W ((K6.out.trans hU.out.2).trans kk) k hk4 v.2 (relK k) v.1 (gU (hrT.keeps kk) hvl) (lS hk4 hvl hvz));rw [hr,hvl] at hrk1;simp only [BU,CG,if_true] at hrk1;have Kw6:=AD hU.out.2;have Hv:=AD (Ak htp (Ak hr (Ak hvl (Ak hvz hrT))));have hr99:r<100:=hr100;clear htp hr hvl hvz hrT hm1 hm2 hr100 hv hvm;have h7c:=AD (fun (W:World) (kk:AA [] wr.drew W)=>Bb ((AA.drew [] wr).trans kk) c0);go_upto_region 11 with fail
     go_cut [9,10] (fun y1 y2 wd=>y1=.int .i64 (r:Int)∧y2=.int .i64 0∧Hid (AA [] wr wd))
     case first=>
      go_region_law (first
       | (refine A2 rfl 28 _ _ rfl _ func28 (by kernel_rfl) (by kernel_rfl) [] rfl ?_
          refine (hrl.out _).mono ?_;rintro e W7 ⟨rfl,hcs7,k7⟩;have n7:W7.cell? ⟨wr.heap.size,k,none⟩=some (.string (Ij k)):=hcs7 k hk4
          have c7:=h7c.out W7 k7)
       | (refine A2 rfl 29 _ _ rfl _ func29 (by kernel_rfl) (by kernel_rfl) [.pointer (some ⟨eb,0,none⟩),.string (Ij k),.slice (some ⟨v.2,0,none⟩) (relK k) (relK k)] rfl ?_
          refine (hrk1.out _ ((AA.drew [] wr).trans k7)).mono ?_
          rintro e W8 ⟨rfl,k8⟩))
      all_goals
       have K8:=AD (((AA.drew [] wr).trans k7).trans k8);clear hcs7 k7 k8 n7 c7;go_wp2_with fail
       go_meet
       exact ⟨rfl,rfl,K8⟩
     case rest=>
      obtain ⟨rfl,rfl,hC⟩:=hcut;have c8:=Bb hC.out c0;have h9c:=AD (fun (W:World) (kk:AA [] wc.drew W)=>Bb ((AA.drew [] wc).trans kk) c8);go_upto_region 12 with fail
      go_cut [57] (fun y wd=>y=.bool false∧Hid (AA [] wr wd))
      case first=>
       first | go_region_with (go_at_call 43;refine (hcl.out _).mono ?_;rintro e W9 ⟨rfl,k9⟩;have c9:=h9c.out W9 k9) | fail
       all_goals
        have K9:=AD (hC.out.trans ((AA.drew [] wc).trans k9));clear k9 c9;go_wp2_with fail
        go_meet
        exact ⟨rfl,K9⟩
      case rest=>
       obtain ⟨rfl,hD⟩:=hcut;clear h9c c8 hC;go_wp2_with fail
       refine (hrl.out _).mono ?_;rintro e W10 ⟨rfl,hcs10,k10⟩;have n10:=hcs10 k hk4;have K10:=AD (hD.out.trans k10);have hrn:(Ij k).size≤1:=Nat.le_of_eq (Yj k);have hu2:(u++Ij k).size≤20000 * k+20 * i+1:=by rw [Bt];omega
       obtain ⟨u2,hu2e⟩:∃ u2,u++Ij k=u2:=⟨_,rfl⟩;rw [hu2e] at hu2;have Hu2:=AD hu2e;have h3:=(FX k).2;obtain ⟨C,hC⟩:∃ C,relK k=C:=⟨_,rfl⟩;clear hcs10 k10 hD;go_wp2_with fail
       clear hu2e n10 hrn;have Htp:=AD Hv.out.1;have Hlen:=AD Hv.out.2.2.1;go_loopw [4,11] (fun x q wq=>∃ (j:Nat) (t:ByteArray),q=.int .i64 j∧x=.string t∧j≤C∧t.size≤20000 * k+20 * i+1+3 * j∧Hid (t=tlC u2 (v.1.take j)∧AA [] W10 wq)) (fun _ q _=>((C:Int) - intOf q).toNat)
       case atStart=>exact ⟨0,u2,rfl,rfl,Nat.zero_le _,hu2,AD ⟨rfl,AA.refl _ _⟩⟩
       case round=>
        obtain ⟨j,t,rfl,rfl,hj,htz,hT⟩:=hrel;have Kw:=AD (K10.out.trans hT.out.2);have d0:=Bb Kw.out c0;rw [hC] at d0;by_cases hjC:j<C
        ·have hjI:(j:Int)<C:=(by omega);obtain ⟨x,hx⟩:∃ x,v.1[j]?=some x:=⟨_,AB (by have:=Hlen.out;omega)⟩;have d1:=Yf (Hv.out.2.2.2.2.keeps Kw.out) (by omega) hx;have hx100:x<100:=by have:=Hv.out.2.2.2.1 x (AE hx);have:=Hz8.out;omega
         have hi1:=AD (fun (W:World)=>hit.out W x hx100);have Hn:=AD (Z0 u2 v.1 hx);have hdz:=PI (x:Int);have hsz3:(t++⟨#[32]⟩++Kn (x:Int)).size≤20000 * k+20 * i+1+3 * (j+1):=by rw [Bt,Bt,show (⟨#[32]⟩:ByteArray).size=1 from rfl];omega
         have hsz1:(t++⟨#[32]⟩:ByteArray).size≤20000 * k+20 * i+2+3 * j:=by rw [Bt,show (⟨#[32]⟩:ByteArray).size=1 from rfl];omega
         obtain ⟨D,hD⟩:∃ D,Kn (x:Int)=D:=⟨_,rfl⟩;rw [hD] at hi1 hdz hsz3 Hn;clear hx hD;go_wp2_with fail
         refine (hi1.out _).mono ?_;rintro e W11 ⟨rfl,e11⟩;have e12:=e11.symm;subst e12;go_wp2_with fail
         exact ⟨⟨j+1,_,by simp,rfl,by omega,hsz3,AD ⟨by rw [Hn.out,hT.out.1],hT.out.2⟩⟩,by simp only [intOf];omega⟩
        ·have hjI:¬ (j:Int)<C:=(by omega);have hje:j=C:=(by omega);subst hje;have htk:v.1.take j=v.1:=A9 (by have:=Hlen.out;omega);have hi1:=AD (fun (W:World)=>hit.out W r hr99);have hdz:=PI (r:Int);have hfin:t++⟨#[32,97,116,32]⟩++Kn (r:Int)++⟨#[59,32]⟩=tlT k u v.1 r:=by unfold tlT;rw [Hu2.out,hT.out.1,htk]
         have Hnx:Hid (lW rk k s ((fP rk k).take (i+1))=tlT k u v.1 r):=AD (by rw [Zz rk k s (fP rk k) Htp.out,←hU.out.1,Hv.out.2.1];rfl);have hsz4:(t++⟨#[32,97,116,32]⟩++Kn (r:Int)++⟨#[59,32]⟩).size≤20000 * k+20 * (i+1):=by rw [Bt,Bt,Bt,show (⟨#[32,97,116,32]⟩:ByteArray).size=4 from rfl,show (⟨#[59,32]⟩:ByteArray).size=2 from rfl];omega
         have hsz1:(t++⟨#[32,97,116,32]⟩:ByteArray).size≤300000:=by rw [Bt,show (⟨#[32,97,116,32]⟩:ByteArray).size=4 from rfl];omega
         have hsz2:(t++⟨#[32,97,116,32]⟩++Kn (r:Int)).size≤300002:=by rw [Bt];omega
         have Hfin:=AD hfin;obtain ⟨D,hD⟩:∃ D,Kn (r:Int)=D:=⟨_,rfl⟩;rw [hD] at hi1 hdz hsz4 hsz2 Hfin;clear hfin hD htk;go_wp2_with fail
         refine (hi1.out _).mono ?_;rintro e W11 ⟨rfl,e11⟩;have e12:=e11.symm;subst e12;go_wp2_with fail
         exact ⟨⟨i+1,_,by simp,rfl,by omega,hsz4,AD ⟨by rw [Hnx.out,Hfin.out],Kw6.out.trans Kw.out⟩⟩,by simp only [intOf];omega⟩
    ·have hiI:¬ (i:Int)<XL:=(by omega);have hie:i=XL:=(by omega);subst hie
     have htk:(fP rk k).take i=fP rk k:=A9 (by
      have e:=congrArg List.length Hxs.out;rw [AY,HXL.out] at e;unfold fP
      omega)
     have Hn:Hid (u=XO rk (k+1)∧AA [] w wr):=AD ⟨by rw [XO,←hS.out.1,hU.out.1,htk],K6.out.trans hU.out.2⟩;have hns:u.size≤20000 * (k+1):=(by omega);clear htk;go_wp2_with fail
     exact ⟨⟨k+1,u,by simp,rfl,by omega,hns,Hn⟩,by simp only [intOf];omega⟩
  ·have hkI:¬ (k:Int)<4:=(by omega);have hke:k=4:=(by omega);subst hke;go_wp2_with fail
   go_ret2
   obtain ⟨rfl,hS2⟩:=hS.out;exact ⟨rfl,hS2⟩
end
end
end Go.Proofs.YtgjomknpjigkhaaGreatDoor
