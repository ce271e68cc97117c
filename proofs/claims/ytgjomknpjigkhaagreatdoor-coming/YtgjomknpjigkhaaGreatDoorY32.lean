import Derived.Test.YtgjomknpjigkhaaGreatDoorY31
namespace Go.Proofs.YtgjomknpjigkhaaGreatDoor
open Go.Proofs.Tryz
set_option maxRecDepth 100000
set_option maxHeartbeats 4000000
section
open Go.RowKit
attribute [local go_sem] Oper.semAt_some
def T8 (n:List UInt8) (s:Pc):List Pc:=[.t .rel,.sp,QC n,.t .lp,QC [100],.t .comma,.sp,QC [100],.t .comma,.sp,QC [100],.t .rp,.t .semi,s]
def Jp (z:Nat):List Pc:=domP z++lO [97] .sp++Jo [98] .sp++Jo [99] .sp++T8 [116] .nl
def Rz:List UInt8:=[59,32,114,101,108,32,97,40,100,41,59,32,114,101,108,32,98,40,100,44,32,100,41,59,32,114,101,108,32,99,40,100,44,32,100,41,59,32,114,101,108,32,116,40,100,44,32,100,44,32,100,41,59,10]
theorem Uz (z:Nat):ba [100,111,109,32,100,32]++Gu z++ba Rz=ba (Ah (Jp z)):=by
 unfold Gu;rw [Dx,Dx];rfl
theorem SZ (w:World) {z:Nat} (hz:z<10):Calls prog 41 #[.int .i64 (z:Int)] w fun e w'=>e=.returned (.string (ba (Ah (Jp z))))∧w' = w:=by
 have hit:=AD (fun (W:World)=>HI (z:Int) (by omega) (by omega) W);rw [So hz] at hit;have hb:=Uz z;have e0:({ data:=#[100,111,109,32,100,32] }:ByteArray)=ba [100,111,109,32,100,32]:=rfl;have e1:({ data:=#[59,32,114,101,108,32,97,40,100,41,59,32,114,101,108,32,98,40,100,44,32,100,41,59,32,114,101,108,32,99,40,100,44,32,100,41,59,32,114,101,108,32,116,40,100,44,32,100,44,32,100,41,59,10] }:ByteArray)=ba Rz:=rfl;have s0:(ba [100,111,109,32,100,32]).size=6:=rfl;have s1:(ba Rz).size=54:=rfl;have s2:=PV z;go_in
 simp only [e0,e1];generalize ba [100,111,109,32,100,32]=t0 at *;generalize ba Rz=t1 at *;generalize Gu z=tz at *;have Hb:=AD hb;clear hb e0 e1;go_wp2_with fail
 refine (hit.out _).mono ?_;rintro e w1 ⟨rfl,e1⟩;have e2:=e1.symm;subst e2;go_wp2_with fail
 go_ret
 exact ⟨by rw [Hb.out];rfl,rfl⟩
end
section
open Go.RowKit
structure Do where
 rel:Int
 no:Bool
 av:Option Addr
 L:List Int
 cap:Nat
structure ER where
 head:Do
 ad:Option Addr
 body:List Do
 bc:Nat
structure Bc where
 rel:Int
 av:Option Addr
 L:List Int
 cap:Nat
def kOf (x:Int):Nat:=(N4 x 4).toNat
theorem HB (x:Int):kOf x<4:=by have:=Ey x (n:=4) (by decide);unfold kOf;omega
theorem M3 (x:Int):N4 x 4=(kOf x:Int):=by have:=Ey x (n:=4) (by decide);unfold kOf;omega
theorem Er (k:Nat):1≤relK k∧relK k≤3:=by unfold relK;split <;> omega
def IG (z:Nat) (nm:List UInt8) (x:Int):Sg:=if x<0 then .var (ba [nm.getD (N4 x 4).toNat 0]) else .int (Gu (N4 x z).toNat)
def FA (z:Nat) (nm:List UInt8) (L:List Int) (k:Nat):List Sg:=(List.range (relK k)).map (fun i=>IG z nm (L.getD i 0))
def F4 (gs:List Sg):List Pc:=gs.flatMap (fun g=>[.t .comma,.sp,.t g])
def La:List Sg→List Pc
 | []=>[]
 | g :: gs=>.t g :: F4 gs
def Kf (k:Nat) (gs:List Sg):List Pc:=QC (IC k) :: .t .lp :: La gs
def Eb (z:Nat) (nm:List UInt8) (l:Do):List Pc:=Kf (kOf l.rel) (FA z nm l.L (kOf l.rel))++[.t .rp]
def Ii (z:Nat) (nm:List UInt8) (l:Do):List Pc:=(if l.no then [.t .bang] else [])++Eb z nm l
def Ej (z:Nat) (nm:List UInt8) (ls:List Do):List Pc:=ls.flatMap (fun l=>[.t .comma,.sp]++Ii z nm l)
def GM (z:Nat) (nm:List UInt8):List Do→List Pc
 | []=>[]
 | l :: ls=>[.sp,.t .arrow,.sp]++Ii z nm l++Ej z nm ls
def FU (z:Nat) (nm:List UInt8) (h:Do) (ls:List Do):List Pc:=Eb z nm h++GM z nm ls++[.t .dot]
theorem Ga {g:Sg} {ps:List Pc} (h1:IF g=true) (h2:MC g (Dw (ba (Ah ps)) 0)=true) (h3:JP ps=true):JP (.t g :: ps)=true:=by
 simp [JP,h1,h2,h3]
def nZ (g:Sg):Prop:=B1 g=true∧IF g=true
theorem nZ.sep {g:Sg} (h:nZ g) {x:Int} (hx:x=41∨x=44):MC g x=true:=by
 obtain ⟨h1,_⟩:=h;cases g <;> first | (rcases hx with rfl | rfl <;> rfl) | (simp [B1] at h1)
theorem Tq:∀ (gs:List Sg),(∀ g∈gs,nZ g)→∀ {r:List Pc},JP r=true→Dw (ba (Ah r)) 0=41→JP (F4 gs++r)=true∧(Dw (ba (Ah (F4 gs++r))) 0=41∨Dw (ba (Ah (F4 gs++r))) 0=44)
 | [],_,_,h1,h2=>⟨h1,.inl h2⟩
 | g :: gs,hg,r,h1,h2=>by
  obtain ⟨a,b⟩:=Tq gs (fun x hx=>hg x (by simp [hx])) h1 h2;have e:F4 (g :: gs)++r=.t .comma :: .sp :: .t g :: (F4 gs++r):=by simp [F4]
  rw [e];exact ⟨Ga rfl rfl (Ga (hg g (by simp)).2 ((hg g (by simp)).sep b) a),.inr (Cm 44 _)⟩
theorem fA {k:Nat} {gs:List Sg} (hg:∀ g∈gs,nZ g) {r:List Pc} (h1:JP r=true):JP (Kf k gs++.t .rp :: r)=true:=by
 have h2:JP (.t .rp :: r)=true:=Ga rfl rfl h1;have h3:Dw (ba (Ah (.t .rp :: r))) 0=41:=Cm 41 _;have hn:∀ q:List Pc,JP q=true→JP (QC (IC k) :: .t .lp :: q)=true:=fun q hq=>Ga (by unfold IC;split <;> rfl) (by rw [show Dw (ba (Ah (.t .lp :: q))) 0=40 from Cm 40 _];rfl) (Ga rfl rfl hq);cases gs with
 | nil=>exact hn _ h2
 | cons g gs=>
  obtain ⟨a,b⟩:=Tq gs (fun x hx=>hg x (by simp [hx])) h2 h3;exact hn _ (Ga (hg g (by simp)).2 ((hg g (by simp)).sep b) a)
def TM (nm:List UInt8):Prop:=nm.length=4∧∀ b∈nm,FF (cI b)=true
theorem aI {z:Nat} (h1:1≤z) (h8:z≤8) {nm:List UInt8} (hn:TM nm) (x:Int):nZ (IG z nm x):=by
 unfold IG;split
 ·refine ⟨rfl,?_⟩;have:=Ey x (n:=4) (by decide);show FF (cI (nm.getD (N4 x 4).toNat 0))=true;rw [Af,AB (by rw [hn.1];omega)];exact hn.2 _ (CQ _)
 ·refine ⟨rfl,OW ?_⟩;have:=Ey x (n:=(z:Int)) (by omega);omega
theorem Yd {z:Nat} (h1:1≤z) (h8:z≤8) {nm:List UInt8} (hn:TM nm) (L:List Int) (k:Nat):∀ g∈FA z nm L k,nZ g:=fun g hg=>by
 obtain ⟨i,_,rfl⟩:=AR.1 hg;exact aI h1 h8 hn _
section
variable {z:Nat} (h1:1≤z) (h8:z≤8) {nm:List UInt8} (hn:TM nm)
include h1 h8 hn
theorem Pq (l:Do) {r:List Pc} (hr:JP r=true):JP (Eb z nm l++r)=true:=by
 unfold Eb;rw [Ag];exact fA (Yd h1 h8 hn _ _) hr
theorem X0 (l:Do) {r:List Pc} (hr:JP r=true):JP (Ii z nm l++r)=true:=by
 unfold Ii;split
 ·exact Ga rfl rfl (Pq h1 h8 hn l hr)
 ·exact Pq h1 h8 hn l hr
theorem US:∀ (ls:List Do) {r:List Pc},JP r=true→JP (Ej z nm ls++r)=true
 | [],_,hr=>hr
 | l :: ls,r,hr=>by
  have e:Ej z nm (l :: ls)++r=.t .comma :: .sp :: (Ii z nm l++(Ej z nm ls++r)):=by simp [Ej]
  rw [e];exact Ga rfl rfl (X0 h1 h8 hn l (US ls hr))
theorem aY (h:Do) (ls:List Do) {r:List Pc} (hr:JP r=true):JP (FU z nm h ls++r)=true:=by
 unfold FU;have hd:JP (.t .dot :: r)=true:=Ga rfl rfl hr;rw [Ag,Ag];refine Pq h1 h8 hn h ?_;cases ls with
 | nil=>exact hd
 | cons l ls=>
  have e:GM z nm (l :: ls)++([.t .dot]++r)=.sp :: .t .arrow :: .sp :: (Ii z nm l++(Ej z nm ls++.t .dot :: r)):=by simp [GM]
  rw [e];exact Ga rfl rfl (X0 h1 h8 hn l (US h1 h8 hn ls hd))
end
theorem UK:∀ (l:List Nat),(∀ a∈l,a<10)→∀ {r:List Pc},JP r=true→Dw (ba (Ah r)) 0=41→JP (EQ l++r)=true
 | [],_,_,h1,_=>h1
 | [a],h,r,h1,h2=>by
  rw [show EQ [a]++r=.t (.int (Gu a)) :: r from rfl];exact Ga (OW (h a (by simp))) (by rw [h2];rfl) h1
 | a :: b :: l,h,r,h1,h2=>by
  have:=UK (b :: l) (fun x hx=>h x (by simp [hx])) h1 h2;rw [show EQ (a :: b :: l)++r=.t (.int (Gu a)) :: .t .comma :: (EQ (b :: l)++r) from rfl];refine Ga (OW (h a (by simp))) ?_ (Ga rfl rfl this);rw [show Dw (ba (Ah (.t .comma :: (EQ (b :: l)++r)))) 0=44 from Cm 44 _];rfl
theorem dZ (k:Nat) {l:List Nat} (h:∀ a∈l,a<10) {r:List Pc} (hr:JP r=true):JP (EA k l++r)=true:=by
 have h2:JP (.t .rp :: .t .dot :: r)=true:=Ga rfl rfl (Ga rfl rfl hr);have e:EA k l++r=QC (IC k) :: .t .lp :: (EQ l++.t .rp :: .t .dot :: r):=by simp [EA,LQ]
 rw [e];refine Ga (by unfold IC;split <;> rfl) ?_ (Ga rfl rfl (UK l h h2 (Cm 41 _)));rw [show Dw (ba (Ah (.t .lp :: (EQ l++.t .rp :: .t .dot :: r)))) 0=40 from Cm 40 _];rfl
def G5 (l:Nat) (gs:List Sg):List Tn:=gs.flatMap (fun g=>[⟨.comma,l⟩,⟨g,l⟩])
theorem Oa (gs:List Sg) (l:Nat):De (F4 gs) l=l:=M7 (fun _ _=>rfl) gs l
theorem OZ:∀ (gs:List Sg) (l:Nat),Bq (F4 gs) l=G5 l gs
 | [],_=>rfl
 | g :: gs,l=>by
  show ⟨.comma,l⟩ :: ⟨g,l⟩ :: Bq (F4 gs) l=_;rw [OZ gs l];rfl
theorem Ox:∀ (a:Nat) (bs:List Nat) (l:Nat),Bq (EQ (a :: bs)) l=⟨.int (Gu a),l⟩ :: G5 l (bs.map (fun b=>.int (Gu b)))
 | a,[],l=>rfl
 | a,b :: bs,l=>by
  show ⟨.int (Gu a),l⟩ :: ⟨.comma,l⟩ :: Bq (EQ (b :: bs)) l=_;rw [Ox b bs l];rfl
theorem Li:∀ (bs:List Nat) (l:Nat),De (EQ bs) l=l
 | [],_=>rfl
 | [_],_=>rfl
 | _ :: b :: bs,l=>Li (b :: bs) l
theorem Om {l:Nat}:∀ (gs:List Sg) (k:Nat) (us:List Tn),gs.length<k→(∀ g∈gs,B1 g=true)→Em B1 k (G5 l gs++⟨.rp,l⟩ :: us)=.ok (gs.map (fun g=>⟨g,l⟩),us)
 | [],k+1,us,_,_=>rfl
 | g :: gs,k+1,us,hk,hg=>by
  have ih:=Om (l:=l) gs k us (by simpa using hk) (fun x hx=>hg x (by simp [hx]));have e:G5 l (g :: gs)++⟨.rp,l⟩ :: us=⟨.comma,l⟩ :: ⟨g,l⟩ :: (G5 l gs++⟨.rp,l⟩ :: us):=by simp [G5]
  rw [e,Em,if_pos (show FB _ _=true from rfl)];show (match (if B1 g=true then (Except.ok (⟨g,l⟩,G5 l gs++⟨.rp,l⟩ :: us):Except Nat (Tn×List Tn)) else .error l) with | .error l=>_ | .ok (t,us)=>_)=_;rw [if_pos (hg g (by simp))];dsimp only;rw [ih];rfl
def MY (l k:Nat) (gs:List Sg):Dz:=⟨⟨.name (ba (IC k)),l⟩,gs.map (fun g=>⟨g,l⟩)⟩
theorem VP {l k:Nat} {g:Sg} {gs:List Sg} (hg:∀ x∈g :: gs,B1 x=true) (us:List Tn):Fu (⟨.name (ba (IC k)),l⟩ :: ⟨.lp,l⟩ :: ⟨g,l⟩ :: (G5 l gs++⟨.rp,l⟩ :: us))=.ok (MY l k (g :: gs),us):=by
 have hr:=Om (l:=l) gs (G5 l gs++⟨.rp,l⟩ :: us).length us (by
  have:gs.length≤(G5 l gs).length:=by
   unfold G5;induction gs with
   | nil=>simp
   | cons x gs ih=>have:=ih (fun y hy=>hg y (by simp only [AJ] at hy ⊢;exact hy.imp id .inr));simp only [BK,AN,AV,A1];omega
  simp only [AN,AV];omega) (fun x hx=>hg x (by simp [hx]))
 have e:FD B1 (⟨.lp,l⟩ :: ⟨g,l⟩ :: (G5 l gs++⟨.rp,l⟩ :: us))=.ok ((g :: gs).map (fun g=>⟨g,l⟩),us):=by
  unfold FD;show (match (if B1 g=true then (Except.ok (⟨g,l⟩,G5 l gs++⟨.rp,l⟩ :: us):Except Nat (Tn×List Tn)) else .error l) with | .error l=>_ | .ok (t,us)=>_)=_;rw [if_pos (hg g (by simp))];dsimp only;rw [hr];rfl
 unfold Fu;show (match FD B1 (⟨.lp,l⟩ :: ⟨g,l⟩ :: (G5 l gs++⟨.rp,l⟩ :: us)) with | .error l=>_ | .ok (r,vs)=>_)=_;rw [e];rfl
theorem Lt (z:Nat) (nm:List UInt8) (a:Do) (l:Nat):De (Eb z nm a) l=l:=by
 unfold Eb;rw [DD];show De (La _) l=l;cases FA z nm a.L (kOf a.rel) with
 | nil=>rfl
 | cons g gs=>exact Oa gs l
theorem I0 (z:Nat) (nm:List UInt8) (a:Do) (l:Nat):De (Ii z nm a) l=l:=by
 unfold Ii;rw [DD,Lt];split <;> rfl
theorem WV (z:Nat) (nm:List UInt8) (ls:List Do) (l:Nat):De (Ej z nm ls) l=l:=M7 (fun a l=>by rw [DD];exact I0 z nm a l) ls l
theorem Pe (z:Nat) (nm:List UInt8) (ls:List Do) (l:Nat):De (GM z nm ls) l=l:=by
 cases ls with
 | nil=>rfl
 | cons a ls=>
  rw [GM,DD,DD,WV];exact I0 z nm a l
theorem Ol (z:Nat) (nm:List UInt8) (h:Do) (ls:List Do) (l:Nat):De (FU z nm h ls) l=l:=by
 unfold FU;rw [DD,DD,Lt,Pe];rfl
def YD (z:Nat) (nm:List UInt8) (l:Nat) (a:Do):Dz:=MY l (kOf a.rel) (FA z nm a.L (kOf a.rel))
def Wd (z:Nat) (nm:List UInt8) (l:Nat) (a:Do):Dp:=⟨YD z nm l a,a.no⟩
def aX (z:Nat) (nm:List UInt8) (l:Nat) (h:Do) (ls:List Do):CO:=.clause (YD z nm l h) (ls.map (Wd z nm l))
def dY (l k:Nat) (bs:List Nat):CO:=.clause (MY l k (bs.map (fun a=>.int (Gu a)))) []
theorem Tl (z:Nat) (nm:List UInt8) (L:List Int) (k:Nat):∀ g∈FA z nm L k,B1 g=true:=fun g hg=>by
 obtain ⟨i,_,rfl⟩:=AR.1 hg;unfold IG;split <;> rfl
theorem Vl (z:Nat) (nm:List UInt8) (L:List Int) (k:Nat):∃ g gs,FA z nm L k=g :: gs:=by
 cases h:FA z nm L k with
 | nil=>
  have:(FA z nm L k).length=relK k:=by simp [FA]
  rw [h] at this;have:=(Er k).1;simp at *;omega
 | cons g gs=>exact ⟨g,gs,rfl⟩
theorem YE (z:Nat) (nm:List UInt8) (a:Do) (l:Nat) (us:List Tn):Fu (Bq (Eb z nm a) l++us)=.ok (YD z nm l a,us):=by
 have ht:=Tl z nm a.L (kOf a.rel);obtain ⟨g,gs,e⟩:=Vl z nm a.L (kOf a.rel);rw [e] at ht;have:=VP (l:=l) (k:=kOf a.rel) ht us;unfold YD Eb;rw [e,CI];show Fu ((⟨.name (ba (IC (kOf a.rel))),l⟩ :: ⟨.lp,l⟩ :: ⟨g,l⟩ :: Bq (F4 gs) l)++[⟨.rp,De (F4 gs) l⟩]++us)=_;rw [Oa,OZ];simpa using this
theorem Nr (z:Nat) (nm:List UInt8) (a:Do) (l:Nat):∃ ts,Bq (Eb z nm a) l=⟨.name (ba (IC (kOf a.rel))),l⟩ :: ts:=⟨_,rfl⟩
theorem cW (z:Nat) (nm:List UInt8) (a:Do) (l:Nat) (us:List Tn):N5 (Bq (Ii z nm a) l++us)=.ok (Wd z nm l a,us):=by
 unfold Ii N5 Wd;have h:=YE z nm a l us;cases hn:a.no with
 | true=>
  simp only [if_true];rw [show Bq ([.t .bang]++Eb z nm a) l++us=⟨.bang,l⟩ :: (Bq (Eb z nm a) l++us) from rfl,if_pos (show FB _ _=true from rfl)];simp only [List.tail_cons];rw [h]
 | false=>
  obtain ⟨ts,e⟩:=Nr z nm a l;simp only [BT,if_false,BU];rw [if_neg (by rw [e];exact DY),h]
theorem O7 (z:Nat) (nm:List UInt8) (l:Nat) (us:List Tn):∀ (ls:List Do) (k:Nat),ls.length<k→Gr k (Bq (Ej z nm ls) l++⟨.dot,l⟩ :: us)=.ok (ls.map (Wd z nm l),us)
 | [],k+1,_=>rfl
 | a :: ls,k+1,hk=>by
  have ih:=O7 z nm l us ls k (by simpa using hk);have e:Bq (Ej z nm (a :: ls)) l++⟨.dot,l⟩ :: us=⟨.comma,l⟩ :: (Bq (Ii z nm a) l++(Bq (Ej z nm ls) l++⟨.dot,l⟩ :: us)):=by
   rw [show Ej z nm (a :: ls)=[.t .comma,.sp]++(Ii z nm a++Ej z nm ls) by simp [Ej],CI,CI];rw [show De [.t .comma,.sp] l=l from rfl,I0];simp [Bq]
  rw [e,Gr,if_pos (show FB _ _=true from rfl)];simp only [List.tail_cons];rw [cW];dsimp only;rw [ih];rfl
theorem Q4 (z:Nat) (nm:List UInt8) (l:Nat):∀ ls:List Do,ls.length≤(Bq (Ej z nm ls) l).length
 | []=>CP _
 | a :: ls=>by
  have ih:=Q4 z nm l ls;rw [show Ej z nm (a :: ls)=[.t .comma,.sp]++(Ii z nm a++Ej z nm ls) by simp [Ej],CI,CI,show De [.t .comma,.sp] l=l from rfl,I0];simp only [AN,AV,Bq,A1];omega
theorem Tv (z:Nat) (nm:List UInt8) (h:Do) (ls:List Do) (l:Nat) (us:List Tn):Bz (Bq (FU z nm h ls) l++us) [aX z nm l h ls] us:=by
 obtain ⟨ts,e0⟩:=Nr z nm h l;have hA:=YE z nm h l (Bq (GM z nm ls) l++⟨.dot,l⟩ :: us);have e1:Bq (FU z nm h ls) l++us=Bq (Eb z nm h) l++(Bq (GM z nm ls) l++⟨.dot,l⟩ :: us):=by
  unfold FU;rw [CI,CI,DD,Lt,Pe];simp [Bq]
 have hB:GN (Bq (GM z nm ls) l++⟨.dot,l⟩ :: us)=.ok (ls.map (Wd z nm l),us):=by
  cases ls with
  | nil=>rfl
  | cons a ls=>
   have hm:=O7 z nm l us ls (Bq (Ej z nm ls) l++⟨.dot,l⟩ :: us).length (by have:=Q4 z nm l ls;simp only [AN,AV];omega);have e:Bq (GM z nm (a :: ls)) l++⟨.dot,l⟩ :: us=⟨.arrow,l⟩ :: (Bq (Ii z nm a) l++(Bq (Ej z nm ls) l++⟨.dot,l⟩ :: us)):=by
    rw [GM,Ag,CI,CI,show De [.sp,.t .arrow,.sp] l=l from rfl,I0];simp [Bq]
   rw [e,GN,if_pos (show FB _ _=true from rfl)];simp only [List.tail_cons];rw [cW];dsimp only;rw [hm];rfl
 refine Bz.one ?_ (by rw [e1,e0];rfl);rw [e1,GC,if_neg (by rw [e0];exact DY),if_neg (by rw [e0];exact DY),hA];dsimp only;rw [hB];rfl
theorem U9 (k a:Nat) (bs:List Nat) (l:Nat) (us:List Tn):Bz (Bq (EA k (a :: bs)) l++us) [dY l k (a :: bs)] us:=by
 have e1:Bq (EA k (a :: bs)) l++us=⟨.name (ba (IC k)),l⟩ :: ⟨.lp,l⟩ :: ⟨.int (Gu a),l⟩ :: (G5 l (bs.map (fun b=>.int (Gu b)))++⟨.rp,l⟩ :: ⟨.dot,l⟩ :: us):=by
  unfold EA LQ;rw [CI];show (⟨.name (ba (IC k)),l⟩ :: ⟨.lp,l⟩ :: Bq (EQ (a :: bs)) l)++[⟨.rp,De (EQ (a :: bs)) l⟩,⟨.dot,De (EQ (a :: bs)) l⟩]++us=_;rw [Ox,Li];simp
 have hA:=VP (l:=l) (k:=k) (g:=.int (Gu a)) (gs:=bs.map (fun b=>.int (Gu b))) (fun x hx=>by
  simp only [AJ,AR] at hx
  rcases hx with rfl | ⟨_,_,rfl⟩ <;> rfl) (⟨.dot,l⟩ :: us)
 refine Bz.one ?_ (by rw [e1];rfl);rw [e1,GC,if_neg (by exact DY),if_neg (by exact DY),hA];rfl
def GT (back:Bool) (r:ER):List Do:=if back then (r.body.take 4).reverse else r.body.take 4
def Fm (z:Nat) (nm:List UInt8) (back:Bool) (r:ER):List Pc:=if r.body.isEmpty then [] else FU z nm r.head (GT back r)++[.nl]
def I6 (z:Nat) (f:Bc):List Pc:=EA (kOf f.rel) (Cl z f.L (kOf f.rel))++[.nl]
def EP (z:Nat) (nm:List UInt8) (back:Bool) (rs:List ER) (fs:List Bc):List Pc:=Jp z++rs.flatMap (Fm z nm back)++fs.flatMap (I6 z)
def FR (z:Nat) (nm:List UInt8) (back:Bool):List ER→Nat→List CO
 | [],_=>[]
 | r :: rs,l=>if r.body.isEmpty then FR z nm back rs l else aX z nm l r.head (GT back r) :: FR z nm back rs (l+1)
def Gn (z:Nat):List Bc→Nat→List CO
 | [],_=>[]
 | f :: fs,l=>dY l (kOf f.rel) (Cl z f.L (kOf f.rel)) :: Gn z fs (l+1)
theorem XF (z:Nat) (L:List Int) (k:Nat):∃ a bs,Cl z L k=a :: bs:=by
 cases h:Cl z L k with
 | nil=>
  have:(Cl z L k).length=relK k:=by simp [Cl]
  rw [h] at this;have:=(Er k).1;simp at *;omega
 | cons g gs=>exact ⟨g,gs,rfl⟩
theorem PQ (k:Nat) (bs:List Nat) (l:Nat):De (EA k bs) l=l:=by
 unfold EA LQ;rw [DD];exact Li bs l
theorem KL (z:Nat) (nm:List UInt8) (back:Bool):∀ (rs:List ER) (l:Nat) (us:List Tn),Bz (Bq (rs.flatMap (Fm z nm back)) l++us) (FR z nm back rs l) us
 | [],_,us=>Bz.nil us
 | r :: rs,l,us=>by
  rw [BK,FR,Fm];split
  ·exact KL z nm back rs l us
  ·rw [CI,CI,DD,Ol,Ag];show Bz (Bq (FU z nm r.head (GT back r)) l++[]++(Bq (rs.flatMap (Fm z nm back)) (l+1)++us)) _ us;rw [Be];exact (Tv z nm r.head (GT back r) l _).trans (is:=[_]) (KL z nm back rs (l+1) us)
theorem Nn (z:Nat):∀ (fs:List Bc) (l:Nat) (us:List Tn),Bz (Bq (fs.flatMap (I6 z)) l++us) (Gn z fs l) us
 | [],_,us=>Bz.nil us
 | f :: fs,l,us=>by
  obtain ⟨a,bs,e⟩:=XF z f.L (kOf f.rel);rw [BK,Gn,I6,CI,CI,DD,PQ,Ag,e];show Bz (Bq (EA (kOf f.rel) (a :: bs)) l++[]++(Bq (fs.flatMap (I6 z)) (l+1)++us)) _ us;rw [Be];exact (U9 (kOf f.rel) a bs l _).trans (is:=[_]) (Nn z fs (l+1) us)
def X5 (z:Nat):List CO:=[.dom (dT 1) ⟨.int (Gu z),1⟩,.rel ⟨.name (ba [97]),1⟩ [dT 1],.rel ⟨.name (ba [98]),1⟩ [dT 1,dT 1],.rel ⟨.name (ba [99]),1⟩ [dT 1,dT 1],.rel ⟨.name (ba [116]),1⟩ [dT 1,dT 1,dT 1]]
theorem Uy (z:Nat) (us:List Tn):Bz (Bq (Jp z) 1++us) (X5 z) us:=by
 refine Bz.trans (is:=[_]) (Bz.one (us:=Bq (lO [97] .sp++Jo [98] .sp++Jo [99] .sp++T8 [116] .nl) 1++us) rfl rfl) ?_;refine Bz.trans (is:=[_]) (Bz.one (us:=Bq (Jo [98] .sp++Jo [99] .sp++T8 [116] .nl) 1++us) rfl rfl) ?_;refine Bz.trans (is:=[_]) (Bz.one (us:=Bq (Jo [99] .sp++T8 [116] .nl) 1++us) rfl rfl) ?_;refine Bz.trans (is:=[_]) (Bz.one (us:=Bq (T8 [116] .nl) 1++us) rfl rfl) ?_;exact Bz.one rfl rfl
theorem PE (z l:Nat):De (Jp z) l=l+1:=rfl
theorem dP {z:Nat} (h1:1≤z) (h8:z≤8):JP (Jp z)=true:=by
 have:z=1∨z=2∨z=3∨z=4∨z=5∨z=6∨z=7∨z=8:=by omega
 rcases this with rfl | rfl | rfl | rfl | rfl | rfl | rfl | rfl <;> rfl
def KO (z:Nat) (nm:List UInt8) (back:Bool) (rs:List ER) (fs:List Bc):List CO:=X5 z++FR z nm back rs 2++Gn z fs (De (rs.flatMap (Fm z nm back)) 2)
theorem WK (z:Nat) (nm:List UInt8) (back:Bool) (rs:List ER) (fs:List Bc) (us:List Tn):Bz (Bq (EP z nm back rs fs) 1++us) (KO z nm back rs fs) us:=by
 unfold EP KO;rw [CI,CI,DD,PE,Ag,Ag];exact ((Uy z _).trans (KL z nm back rs 2 _)).trans (Nn z fs _ us)
theorem iH {z:Nat} (h1:1≤z) (h8:z≤8) {nm:List UInt8} (hn:TM nm) (back:Bool) (rs:List ER) (fs:List Bc):JP (EP z nm back rs fs)=true:=by
 have hf:∀ fs:List Bc,JP (fs.flatMap (I6 z))=true:=fun fs=>by
  induction fs with
  | nil=>rfl
  | cons f fs ih=>
   rw [BK,I6,Ag];refine dZ _ (fun a ha=>?_) ih;obtain ⟨i,_,rfl⟩:=AR.1 ha;have:=HQ h1 f.L i;omega
 have hr:∀ (rs:List ER) (q:List Pc),JP q=true→JP (rs.flatMap (Fm z nm back)++q)=true:=fun rs q hq=>by
  induction rs with
  | nil=>exact hq
  | cons r rs ih=>
   rw [BK,Fm];split
   ·exact ih
   ·rw [Ag,Ag];exact aY h1 h8 hn _ _ ih
 unfold EP;rw [Ag];exact OC _ _ (dP h1 h8) rfl (hr rs _ (hf fs))
theorem KM (z:Nat) (nm:List UInt8) (back:Bool):∀ (rs:List ER) (l:Nat),(FR z nm back rs l).length≤(Bq (rs.flatMap (Fm z nm back)) l).length
 | [],_=>AS _
 | r :: rs,l=>by
  rw [BK,FR,Fm];split
  ·exact KM z nm back rs l
  ·rw [CI,CI,DD,Ol];have:=KM z nm back rs (l+1);show (FR z nm back rs (l+1)).length+1≤(Bq (FU z nm r.head (GT back r)) l++[]++Bq (rs.flatMap (Fm z nm back)) (l+1)).length;have h2:1≤(Bq (FU z nm r.head (GT back r)) l).length:=Nat.le_add_left 1 _;simp only [AN,A1];omega
theorem No (z:Nat):∀ (fs:List Bc) (l:Nat),(Gn z fs l).length≤(Bq (fs.flatMap (I6 z)) l).length
 | [],_=>AS _
 | f :: fs,l=>by
  rw [BK,Gn,I6,CI,CI,DD,PQ];have:=No z fs (l+1);show (Gn z fs (l+1)).length+1≤(Bq (EA (kOf f.rel) (Cl z f.L (kOf f.rel))) l++[]++Bq (fs.flatMap (I6 z)) (l+1)).length;have h2:1≤(Bq (EA (kOf f.rel) (Cl z f.L (kOf f.rel))) l).length:=Nat.le_add_left 1 _;simp only [AN,A1];omega
theorem WM (z:Nat) (nm:List UInt8) (back:Bool) (rs:List ER) (fs:List Bc):(KO z nm back rs fs).length≤(Bq (EP z nm back rs fs) 1).length:=by
 unfold EP KO;rw [CI,CI,DD,PE,show 1+1=2 from rfl];have h1:=KM z nm back rs 2;have h2:=No z fs (De (rs.flatMap (Fm z nm back)) 2);have h3:(X5 z).length≤(Bq (Jp z) 1).length:=Nat.le_of_ble_eq_true rfl;simp only [AN] at h1 h2 ⊢;omega
theorem Qu {z:Nat} (h1:1≤z) (h8:z≤8) {nm:List UInt8} (hn:TM nm) {back:Bool} {rs:List ER} {fs:List Bc} {toks:List Tn} {m:Mean} (hR:EE (ba (Ah (EP z nm back rs fs)))=.ok (toks,m)):CN GF (KO z nm back rs fs)=.ok m:=by
 have hs:=Fl (EP z nm back rs fs) (Ah (EP z nm back rs fs)).length 1 (iH h1 h8 hn back rs fs) (AS _);have hi:=WK z nm back rs fs [⟨.fin,De (EP z nm back rs fs) 1⟩];have hc:=WM z nm back rs fs;unfold EE at hR;split at hR
 ·cases hR
 rw [D5,hs] at hR;dsimp only at hR;have hq:(CY (Bq (EP z nm back rs fs) 1) (De (EP z nm back rs fs) 1)).length=((Bq (EP z nm back rs fs) 1).length - (KO z nm back rs fs).length+1)+(KO z nm back rs fs).length:=by
  simp only [CY,AN,AV,A1];omega
 have e1:Dd (CY (Bq (EP z nm back rs fs) 1) (De (EP z nm back rs fs) 1)).length (CY (Bq (EP z nm back rs fs) 1) (De (EP z nm back rs fs) 1))=.ok (KO z nm back rs fs):=by
  rw [hq];unfold CY;rw [hi];have e2:∀ q,Dd (q+1) [⟨.fin,De (EP z nm back rs fs) 1⟩]=.ok []:=fun q=>rfl;rw [e2];simp
 rw [e1] at hR;dsimp only at hR;cases hS:CN GF (KO z nm back rs fs) with
 | error f=>rw [hS] at hR;cases hR
 | ok me=>
  rw [hS] at hR;dsimp only at hR;cases hL:Mz me with
  | error f=>rw [hL] at hR;cases hR
  | ok _=>rw [hL] at hR;cases hR;rfl
def T6:List (ByteArray×List Nat):=[(ba [97],[0]),(ba [98],[0,0]),(ba [99],[0,0]),(ba [116],[0,0,0])]
def BY (z:Nat) (cs:List Ae):Mean:=⟨[(ba [100],(z:Int))],T6,cs⟩
theorem Nj {z:Nat} (h1:1≤z) (h8:z≤8):CN GF (X5 z)=.ok (BY z []):=by
 have:z=1∨z=2∨z=3∨z=4∨z=5∨z=6∨z=7∨z=8:=by omega
 rcases this with rfl | rfl | rfl | rfl | rfl | rfl | rfl | rfl <;> rfl
theorem RA (z:Nat):∀ (fs:List Bc) (l:Nat),∀ i∈Gn z fs l,∃ h ls,i=.clause h ls∧∀ l∈ls,l.no=false
 | [],_,i,hi=>by cases hi
 | f :: fs,l,i,hi=>by
  rw [Gn] at hi;rcases AJ.1 hi with rfl | hi
  ·exact ⟨_,_,rfl,fun a ha=>by cases ha⟩
  ·exact RA z fs (l+1) i hi
theorem Yj (gs:List Sg) (h:∀ g∈gs,(Cy g).length≤1):(Ah (F4 gs)).length≤3 * gs.length:=by
 induction gs with
 | nil=>simp [F4,Ah]
 | cons g gs ih=>
  have:=ih (fun x hx=>h x (by simp [hx]));have h1:=h g (by simp);rw [show F4 (g :: gs)=.t .comma :: .sp :: .t g :: F4 gs from rfl,Cg,Cg,Cg];simp only [AN,AV];have a1:(Iw (.t .comma)).length=1:=rfl;have a2:(Iw .sp).length=1:=rfl;have a3:(Iw (.t g)).length=(Cy g).length:=rfl;omega
theorem Yf (z:Nat) (nm:List UInt8) (x:Int):(Cy (IG z nm x)).length≤1:=by
 unfold IG;split <;> exact AS _
theorem RL (k:Nat) (gs:List Sg) (h:∀ g∈gs,(Cy g).length≤1):(Ah (Kf k gs)).length≤2+3 * gs.length:=by
 unfold Kf;rw [Cg,Cg];simp only [AN];have a1:(Iw (QC (IC k))).length=1:=by unfold IC;split <;> rfl
 have a2:(Iw (.t .lp)).length=1:=rfl;cases gs with
 | nil=>simp [La,Ah] at *;omega
 | cons g gs=>
  have:=Yj gs (fun x hx=>h x (by simp [hx]));have h1:=h g (by simp);rw [show La (g :: gs)=.t g :: F4 gs from rfl,Cg];simp only [AN,AV];have a3:(Iw (.t g)).length=(Cy g).length:=rfl;omega
theorem NN (z:Nat) (nm:List UInt8) (L:List Int) (k:Nat):∀ g∈FA z nm L k,(Cy g).length≤1:=fun g hg=>by
 obtain ⟨i,_,rfl⟩:=AR.1 hg;exact Yf ..
theorem LB (z:Nat) (nm:List UInt8) (l:Do):(Ah (Eb z nm l)).length≤12:=by
 unfold Eb;rw [BQ,AN];have:=RL (kOf l.rel) _ (NN z nm l.L (kOf l.rel));have h2:(FA z nm l.L (kOf l.rel)).length=relK (kOf l.rel):=by simp [FA]
 have h3:=(Er (kOf l.rel)).2;have h4:(Ah [.t .rp]).length=1:=rfl;omega
theorem Ub (z:Nat) (nm:List UInt8) (l:Do):(Ah (Ii z nm l)).length≤13:=by
 unfold Ii;rw [BQ,AN];have:=LB z nm l;have h2:(Ah (if l.no=true then [Pc.t .bang] else [])).length≤1:=by split <;> decide
 omega
theorem O0 (z:Nat) (nm:List UInt8):∀ (ls:List Do),(Ah (Ej z nm ls)).length≤15 * ls.length
 | []=>AS _
 | l :: ls=>by
  have:=O0 z nm ls;have h2:=Ub z nm l;rw [show Ej z nm (l :: ls)=[.t .comma,.sp]++(Ii z nm l++Ej z nm ls) by simp [Ej],BQ,BQ];simp only [AN,AV];have a1:(Ah [.t .comma,.sp]).length=2:=rfl;omega
theorem RG (z:Nat) (nm:List UInt8) (ls:List Do):(Ah (GM z nm ls)).length≤17 * ls.length:=by
 cases ls with
 | nil=>exact AS _
 | cons l ls=>
  have:=O0 z nm ls;have h2:=Ub z nm l;rw [GM,BQ,BQ];simp only [AN,AV];have a1:(Ah [.sp,.t .arrow,.sp]).length=4:=rfl;omega
theorem WZ (back:Bool) (r:ER):(GT back r).length≤4:=by
 unfold GT;split <;> simp <;> omega
theorem Qs (z:Nat) (nm:List UInt8) (back:Bool) (r:ER):(Ah (Fm z nm back r)).length≤100:=by
 unfold Fm;split
 ·simp [Ah]
 ·unfold FU;rw [BQ,BQ,BQ];have h1:=LB z nm r.head;have h2:=RG z nm (GT back r);have h3:=WZ back r;simp only [AN];have a1:(Ah [.t .dot]).length=1:=rfl;have a2:(Ah [.nl]).length=1:=rfl;omega
theorem RB (k z:Nat) (L:List Int):(Ah (EA k (Cl z L k))).length≤12:=by
 unfold EA;rw [BQ,AN];have h1:=OP k (Cl z L k);unfold Ny at h1;rw [D5] at h1;have h2:(Cl z L k).length=relK k:=by simp [Cl]
 have h3:=(Er k).2;have a1:(Ah [.t .rp,.t .dot]).length=2:=rfl;omega
end
end Go.Proofs.YtgjomknpjigkhaaGreatDoor
