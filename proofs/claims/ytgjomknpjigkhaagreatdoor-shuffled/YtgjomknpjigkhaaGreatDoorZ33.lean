import Derived.Test.YtgjomknpjigkhaaGreatDoorZ32
namespace Go.Proofs.YtgjomknpjigkhaaGreatDoor
open Go.Proofs.Tryz
set_option maxRecDepth 100000
set_option maxHeartbeats 4000000
section
open Go.RowKit
attribute [local go_sem] Oper.semAt_some
def Tj (n:List UInt8) (s:Pc):List Pc:=[.t .rel,.sp,P0 n,.t .lp,P0 [100],.t .comma,.sp,P0 [100],.t .comma,.sp,P0 [100],.t .rp,.t .semi,s]
def GR (z:Nat):List Pc:=domP z++lC [97] .sp++Ja [98] .sp++Ja [99] .sp++Tj [116] .nl
def Rh:List UInt8:=[59,32,114,101,108,32,97,40,100,41,59,32,114,101,108,32,98,40,100,44,32,100,41,59,32,114,101,108,32,99,40,100,44,32,100,41,59,32,114,101,108,32,116,40,100,44,32,100,44,32,100,41,59,10]
theorem Ug (z:Nat):ba [100,111,109,32,100,32]++GZ z++ba Rh=ba (Ae (GR z)):=by
 unfold GZ;rw [DU,DU];rfl
theorem MF (w:World) {z:Nat} (hz:z<10):Calls prog 41 #[.int .i64 (z:Int)] w fun e w'=>e=.returned (.string (ba (Ae (GR z))))∧w' = w:=by
 have hit:=AD (fun (W:World)=>G0 (z:Int) (by omega) (by omega) W);rw [SX hz] at hit;have hb:=Ug z;have e0:({ data:=#[100,111,109,32,100,32] }:ByteArray)=ba [100,111,109,32,100,32]:=rfl;have e1:({ data:=#[59,32,114,101,108,32,97,40,100,41,59,32,114,101,108,32,98,40,100,44,32,100,41,59,32,114,101,108,32,99,40,100,44,32,100,41,59,32,114,101,108,32,116,40,100,44,32,100,44,32,100,41,59,10] }:ByteArray)=ba Rh:=rfl;have s0:(ba [100,111,109,32,100,32]).size=6:=rfl;have s1:(ba Rh).size=54:=rfl;have s2:=PF z;go_in
 simp only [e0,e1];generalize ba [100,111,109,32,100,32]=t0 at *;generalize ba Rh=t1 at *;generalize GZ z=tz at *;have Hb:=AD hb;clear hb e0 e1;go_wp2_with fail
 refine (hit.out _).mono ?_;rintro e w1 ⟨rfl,e1⟩;have e2:=e1.symm;subst e2;go_wp2_with fail
 go_ret
 exact ⟨by rw [Hb.out];rfl,rfl⟩
end
section
open Go.RowKit
structure Bu where
 rel:Int
 no:Bool
 av:Option Addr
 L:List Int
 cap:Nat
structure C0 where
 head:Bu
 ad:Option Addr
 body:List Bu
 bc:Nat
structure Ch where
 rel:Int
 av:Option Addr
 L:List Int
 cap:Nat
def kOf (x:Int):Nat:=(LP x 4).toNat
theorem IU (x:Int):kOf x<4:=by have:=Ec x (n:=4) (by decide);unfold kOf;omega
theorem WV (x:Int):LP x 4=(kOf x:Int):=by have:=Ec x (n:=4) (by decide);unfold kOf;omega
theorem FX (k:Nat):1≤relK k∧relK k≤3:=by unfold relK;split <;> omega
def Er (z:Nat) (nm:List UInt8) (x:Int):Sg:=if x<0 then .var (ba [nm.getD (LP x 4).toNat 0]) else .int (GZ (LP x z).toNat)
def EE (z:Nat) (nm:List UInt8) (L:List Int) (k:Nat):List Sg:=(List.range (relK k)).map (fun i=>Er z nm (L.getD i 0))
def E0 (gs:List Sg):List Pc:=gs.flatMap (fun g=>[.t .comma,.sp,.t g])
def Ga:List Sg→List Pc
 | []=>[]
 | g :: gs=>.t g :: E0 gs
def Jd (k:Nat) (gs:List Sg):List Pc:=P0 (IQ k) :: .t .lp :: Ga gs
def Di (z:Nat) (nm:List UInt8) (l:Bu):List Pc:=Jd (kOf l.rel) (EE z nm l.L (kOf l.rel))++[.t .rp]
def GH (z:Nat) (nm:List UInt8) (l:Bu):List Pc:=(if l.no then [.t .bang] else [])++Di z nm l
def EZ (z:Nat) (nm:List UInt8) (ls:List Bu):List Pc:=ls.flatMap (fun l=>[.t .comma,.sp]++GH z nm l)
def FQ (z:Nat) (nm:List UInt8):List Bu→List Pc
 | []=>[]
 | l :: ls=>[.sp,.t .arrow,.sp]++GH z nm l++EZ z nm ls
def EH (z:Nat) (nm:List UInt8) (h:Bu) (ls:List Bu):List Pc:=Di z nm h++FQ z nm ls++[.t .dot]
theorem GQ {g:Sg} {ps:List Pc} (h1:HU g=true) (h2:Lz g (Dw (ba (Ae ps)) 0)=true) (h3:JC ps=true):JC (.t g :: ps)=true:=by
 simp [JC,h1,h2,h3]
def nM (g:Sg):Prop:=Bv g=true∧HU g=true
theorem nM.sep {g:Sg} (h:nM g) {x:Int} (hx:x=41∨x=44):Lz g x=true:=by
 obtain ⟨h1,_⟩:=h;cases g <;> first | (rcases hx with rfl | rfl <;> rfl) | (simp [Bv] at h1)
theorem TR:∀ (gs:List Sg),(∀ g∈gs,nM g)→∀ {r:List Pc},JC r=true→Dw (ba (Ae r)) 0=41→JC (E0 gs++r)=true∧(Dw (ba (Ae (E0 gs++r))) 0=41∨Dw (ba (Ae (E0 gs++r))) 0=44)
 | [],_,_,h1,h2=>⟨h1,.inl h2⟩
 | g :: gs,hg,r,h1,h2=>by
  obtain ⟨a,b⟩:=TR gs (fun x hx=>hg x (by simp [hx])) h1 h2;have e:E0 (g :: gs)++r=.t .comma :: .sp :: .t g :: (E0 gs++r):=by simp [E0]
  rw [e];exact ⟨GQ rfl rfl (GQ (hg g (by simp)).2 ((hg g (by simp)).sep b) a),.inr (Ci 44 _)⟩
theorem eM {k:Nat} {gs:List Sg} (hg:∀ g∈gs,nM g) {r:List Pc} (h1:JC r=true):JC (Jd k gs++.t .rp :: r)=true:=by
 have h2:JC (.t .rp :: r)=true:=GQ rfl rfl h1;have h3:Dw (ba (Ae (.t .rp :: r))) 0=41:=Ci 41 _;have hn:∀ q:List Pc,JC q=true→JC (P0 (IQ k) :: .t .lp :: q)=true:=fun q hq=>GQ (by unfold IQ;split <;> rfl) (by rw [show Dw (ba (Ae (.t .lp :: q))) 0=40 from Ci 40 _];rfl) (GQ rfl rfl hq);cases gs with
 | nil=>exact hn _ h2
 | cons g gs=>
  obtain ⟨a,b⟩:=TR gs (fun x hx=>hg x (by simp [hx])) h2 h3;exact hn _ (GQ (hg g (by simp)).2 ((hg g (by simp)).sep b) a)
def M4 (nm:List UInt8):Prop:=nm.length=4∧∀ b∈nm,E6 (cI b)=true
theorem Z6 {z:Nat} (h1:1≤z) (h8:z≤8) {nm:List UInt8} (hn:M4 nm) (x:Int):nM (Er z nm x):=by
 unfold Er;split
 ·refine ⟨rfl,?_⟩;have:=Ec x (n:=4) (by decide);show E6 (cI (nm.getD (LP x 4).toNat 0))=true;rw [Ad,AB (by rw [hn.1];omega)];exact hn.2 _ (CC _)
 ·refine ⟨rfl,OK ?_⟩;have:=Ec x (n:=(z:Int)) (by omega);omega
theorem YO {z:Nat} (h1:1≤z) (h8:z≤8) {nm:List UInt8} (hn:M4 nm) (L:List Int) (k:Nat):∀ g∈EE z nm L k,nM g:=fun g hg=>by
 obtain ⟨i,_,rfl⟩:=AM.1 hg;exact Z6 h1 h8 hn _
section
variable {z:Nat} (h1:1≤z) (h8:z≤8) {nm:List UInt8} (hn:M4 nm)
include h1 h8 hn
theorem PX (l:Bu) {r:List Pc} (hr:JC r=true):JC (Di z nm l++r)=true:=by
 unfold Di;rw [Ab];exact eM (YO h1 h8 hn _ _) hr
theorem Xm (l:Bu) {r:List Pc} (hr:JC r=true):JC (GH z nm l++r)=true:=by
 unfold GH;split
 ·exact GQ rfl rfl (PX h1 h8 hn l hr)
 ·exact PX h1 h8 hn l hr
theorem UA:∀ (ls:List Bu) {r:List Pc},JC r=true→JC (EZ z nm ls++r)=true
 | [],_,hr=>hr
 | l :: ls,r,hr=>by
  have e:EZ z nm (l :: ls)++r=.t .comma :: .sp :: (GH z nm l++(EZ z nm ls++r)):=by simp [EZ]
  rw [e];exact GQ rfl rfl (Xm h1 h8 hn l (UA ls hr))
theorem aM (h:Bu) (ls:List Bu) {r:List Pc} (hr:JC r=true):JC (EH z nm h ls++r)=true:=by
 unfold EH;have hd:JC (.t .dot :: r)=true:=GQ rfl rfl hr;rw [Ab,Ab];refine PX h1 h8 hn h ?_;cases ls with
 | nil=>exact hd
 | cons l ls=>
  have e:FQ z nm (l :: ls)++([.t .dot]++r)=.sp :: .t .arrow :: .sp :: (GH z nm l++(EZ z nm ls++.t .dot :: r)):=by simp [FQ]
  rw [e];exact GQ rfl rfl (Xm h1 h8 hn l (UA h1 h8 hn ls hd))
end
theorem Tx:∀ (l:List Nat),(∀ a∈l,a<10)→∀ {r:List Pc},JC r=true→Dw (ba (Ae r)) 0=41→JC (Et l++r)=true
 | [],_,_,h1,_=>h1
 | [a],h,r,h1,h2=>by
  rw [show Et [a]++r=.t (.int (GZ a)) :: r from rfl];exact GQ (OK (h a (by simp))) (by rw [h2];rfl) h1
 | a :: b :: l,h,r,h1,h2=>by
  have:=Tx (b :: l) (fun x hx=>h x (by simp [hx])) h1 h2;rw [show Et (a :: b :: l)++r=.t (.int (GZ a)) :: .t .comma :: (Et (b :: l)++r) from rfl];refine GQ (OK (h a (by simp))) ?_ (GQ rfl rfl this);rw [show Dw (ba (Ae (.t .comma :: (Et (b :: l)++r)))) 0=44 from Ci 44 _];rfl
theorem dP (k:Nat) {l:List Nat} (h:∀ a∈l,a<10) {r:List Pc} (hr:JC r=true):JC (Ee k l++r)=true:=by
 have h2:JC (.t .rp :: .t .dot :: r)=true:=GQ rfl rfl (GQ rfl rfl hr);have e:Ee k l++r=P0 (IQ k) :: .t .lp :: (Et l++.t .rp :: .t .dot :: r):=by simp [Ee,MG]
 rw [e];refine GQ (by unfold IQ;split <;> rfl) ?_ (GQ rfl rfl (Tx l h h2 (Ci 41 _)));rw [show Dw (ba (Ae (.t .lp :: (Et l++.t .rp :: .t .dot :: r)))) 0=40 from Ci 40 _];rfl
def Gv (l:Nat) (gs:List Sg):List Tn:=gs.flatMap (fun g=>[⟨.comma,l⟩,⟨g,l⟩])
theorem OO (gs:List Sg) (l:Nat):C4 (E0 gs) l=l:=Mv (fun _ _=>rfl) gs l
theorem ON:∀ (gs:List Sg) (l:Nat),Bc (E0 gs) l=Gv l gs
 | [],_=>rfl
 | g :: gs,l=>by
  show ⟨.comma,l⟩ :: ⟨g,l⟩ :: Bc (E0 gs) l=_;rw [ON gs l];rfl
theorem On:∀ (a:Nat) (bs:List Nat) (l:Nat),Bc (Et (a :: bs)) l=⟨.int (GZ a),l⟩ :: Gv l (bs.map (fun b=>.int (GZ b)))
 | a,[],l=>rfl
 | a,b :: bs,l=>by
  show ⟨.int (GZ a),l⟩ :: ⟨.comma,l⟩ :: Bc (Et (b :: bs)) l=_;rw [On b bs l];rfl
theorem LS:∀ (bs:List Nat) (l:Nat),C4 (Et bs) l=l
 | [],_=>rfl
 | [_],_=>rfl
 | _ :: b :: bs,l=>LS (b :: bs) l
theorem Od {l:Nat}:∀ (gs:List Sg) (k:Nat) (us:List Tn),gs.length<k→(∀ g∈gs,Bv g=true)→Ef Bv k (Gv l gs++⟨.rp,l⟩ :: us)=.ok (gs.map (fun g=>⟨g,l⟩),us)
 | [],k+1,us,_,_=>rfl
 | g :: gs,k+1,us,hk,hg=>by
  have ih:=Od (l:=l) gs k us (by simpa using hk) (fun x hx=>hg x (by simp [hx]));have e:Gv l (g :: gs)++⟨.rp,l⟩ :: us=⟨.comma,l⟩ :: ⟨g,l⟩ :: (Gv l gs++⟨.rp,l⟩ :: us):=by simp [Gv]
  rw [e,Ef,if_pos (show E1 _ _=true from rfl)];show (match (if Bv g=true then (Except.ok (⟨g,l⟩,Gv l gs++⟨.rp,l⟩ :: us):Except Nat (Tn×List Tn)) else .error l) with | .error l=>_ | .ok (t,us)=>_)=_;rw [if_pos (hg g (by simp))];dsimp only;rw [ih];rfl
def MP (l k:Nat) (gs:List Sg):Dx:=⟨⟨.name (ba (IQ k)),l⟩,gs.map (fun g=>⟨g,l⟩)⟩
theorem U6 {l k:Nat} {g:Sg} {gs:List Sg} (hg:∀ x∈g :: gs,Bv x=true) (us:List Tn):Fj (⟨.name (ba (IQ k)),l⟩ :: ⟨.lp,l⟩ :: ⟨g,l⟩ :: (Gv l gs++⟨.rp,l⟩ :: us))=.ok (MP l k (g :: gs),us):=by
 have hr:=Od (l:=l) gs (Gv l gs++⟨.rp,l⟩ :: us).length us (by
  have:gs.length≤(Gv l gs).length:=by
   unfold Gv;induction gs with
   | nil=>simp
   | cons x gs ih=>have:=ih (fun y hy=>hg y (by simp only [AG] at hy ⊢;exact hy.imp id .inr));simp only [A6,AJ,AU,Ao];omega
  simp only [AJ,AU];omega) (fun x hx=>hg x (by simp [hx]))
 have e:E4 Bv (⟨.lp,l⟩ :: ⟨g,l⟩ :: (Gv l gs++⟨.rp,l⟩ :: us))=.ok ((g :: gs).map (fun g=>⟨g,l⟩),us):=by
  unfold E4;show (match (if Bv g=true then (Except.ok (⟨g,l⟩,Gv l gs++⟨.rp,l⟩ :: us):Except Nat (Tn×List Tn)) else .error l) with | .error l=>_ | .ok (t,us)=>_)=_;rw [if_pos (hg g (by simp))];dsimp only;rw [hr];rfl
 unfold Fj;show (match E4 Bv (⟨.lp,l⟩ :: ⟨g,l⟩ :: (Gv l gs++⟨.rp,l⟩ :: us)) with | .error l=>_ | .ok (r,vs)=>_)=_;rw [e];rfl
theorem Lg (z:Nat) (nm:List UInt8) (a:Bu) (l:Nat):C4 (Di z nm a) l=l:=by
 unfold Di;rw [C7];show C4 (Ga _) l=l;cases EE z nm a.L (kOf a.rel) with
 | nil=>rfl
 | cons g gs=>exact OO gs l
theorem Im (z:Nat) (nm:List UInt8) (a:Bu) (l:Nat):C4 (GH z nm a) l=l:=by
 unfold GH;rw [C7,Lg];split <;> rfl
theorem V8 (z:Nat) (nm:List UInt8) (ls:List Bu) (l:Nat):C4 (EZ z nm ls) l=l:=Mv (fun a l=>by rw [C7];exact Im z nm a l) ls l
theorem PN (z:Nat) (nm:List UInt8) (ls:List Bu) (l:Nat):C4 (FQ z nm ls) l=l:=by
 cases ls with
 | nil=>rfl
 | cons a ls=>
  rw [FQ,C7,C7,V8];exact Im z nm a l
theorem Oc (z:Nat) (nm:List UInt8) (h:Bu) (ls:List Bu) (l:Nat):C4 (EH z nm h ls) l=l:=by
 unfold EH;rw [C7,C7,Lg,PN];rfl
def MO (z:Nat) (nm:List UInt8) (l:Nat) (a:Bu):Dx:=MP l (kOf a.rel) (EE z nm a.L (kOf a.rel))
def P4 (z:Nat) (nm:List UInt8) (l:Nat) (a:Bu):Dn:=⟨MO z nm l a,a.no⟩
def XY (z:Nat) (nm:List UInt8) (l:Nat) (h:Bu) (ls:List Bu):CM:=.clause (MO z nm l h) (ls.map (P4 z nm l))
def dO (l k:Nat) (bs:List Nat):CM:=.clause (MP l k (bs.map (fun a=>.int (GZ a)))) []
theorem TN (z:Nat) (nm:List UInt8) (L:List Int) (k:Nat):∀ g∈EE z nm L k,Bv g=true:=fun g hg=>by
 obtain ⟨i,_,rfl⟩:=AM.1 hg;unfold Er;split <;> rfl
theorem Vb (z:Nat) (nm:List UInt8) (L:List Int) (k:Nat):∃ g gs,EE z nm L k=g :: gs:=by
 cases h:EE z nm L k with
 | nil=>
  have:(EE z nm L k).length=relK k:=by simp [EE]
  rw [h] at this;have:=(FX k).1;simp at *;omega
 | cons g gs=>exact ⟨g,gs,rfl⟩
theorem X2 (z:Nat) (nm:List UInt8) (a:Bu) (l:Nat) (us:List Tn):Fj (Bc (Di z nm a) l++us)=.ok (MO z nm l a,us):=by
 have ht:=TN z nm a.L (kOf a.rel);obtain ⟨g,gs,e⟩:=Vb z nm a.L (kOf a.rel);rw [e] at ht;have:=U6 (l:=l) (k:=kOf a.rel) ht us;unfold MO Di;rw [e,CF];show Fj ((⟨.name (ba (IQ (kOf a.rel))),l⟩ :: ⟨.lp,l⟩ :: ⟨g,l⟩ :: Bc (E0 gs) l)++[⟨.rp,C4 (E0 gs) l⟩]++us)=_;rw [OO,ON];simpa using this
theorem Nj (z:Nat) (nm:List UInt8) (a:Bu) (l:Nat):∃ ts,Bc (Di z nm a) l=⟨.name (ba (IQ (kOf a.rel))),l⟩ :: ts:=⟨_,rfl⟩
theorem cH (z:Nat) (nm:List UInt8) (a:Bu) (l:Nat) (us:List Tn):Nv (Bc (GH z nm a) l++us)=.ok (P4 z nm l a,us):=by
 unfold GH Nv P4;have h:=X2 z nm a l us;cases hn:a.no with
 | true=>
  simp only [if_true];rw [show Bc ([.t .bang]++Di z nm a) l++us=⟨.bang,l⟩ :: (Bc (Di z nm a) l++us) from rfl,if_pos (show E1 _ _=true from rfl)];simp only [List.tail_cons];rw [h]
 | false=>
  obtain ⟨ts,e⟩:=Nj z nm a l;simp only [BQ,if_false,BM];rw [if_neg (by rw [e];exact DY),h]
theorem Oy (z:Nat) (nm:List UInt8) (l:Nat) (us:List Tn):∀ (ls:List Bu) (k:Nat),ls.length<k→Gh k (Bc (EZ z nm ls) l++⟨.dot,l⟩ :: us)=.ok (ls.map (P4 z nm l),us)
 | [],k+1,_=>rfl
 | a :: ls,k+1,hk=>by
  have ih:=Oy z nm l us ls k (by simpa using hk);have e:Bc (EZ z nm (a :: ls)) l++⟨.dot,l⟩ :: us=⟨.comma,l⟩ :: (Bc (GH z nm a) l++(Bc (EZ z nm ls) l++⟨.dot,l⟩ :: us)):=by
   rw [show EZ z nm (a :: ls)=[.t .comma,.sp]++(GH z nm a++EZ z nm ls) by simp [EZ],CF,CF];rw [show C4 [.t .comma,.sp] l=l from rfl,Im];simp [Bc]
  rw [e,Gh,if_pos (show E1 _ _=true from rfl)];simp only [List.tail_cons];rw [cH];dsimp only;rw [ih];rfl
theorem Qi (z:Nat) (nm:List UInt8) (l:Nat):∀ ls:List Bu,ls.length≤(Bc (EZ z nm ls) l).length
 | []=>Nat.zero_le _
 | a :: ls=>by
  have ih:=Qi z nm l ls;rw [show EZ z nm (a :: ls)=[.t .comma,.sp]++(GH z nm a++EZ z nm ls) by simp [EZ],CF,CF,show C4 [.t .comma,.sp] l=l from rfl,Im];simp only [AJ,AU,Bc,Ao];omega
theorem TY (z:Nat) (nm:List UInt8) (h:Bu) (ls:List Bu) (l:Nat) (us:List Tn):Br (Bc (EH z nm h ls) l++us) [XY z nm l h ls] us:=by
 obtain ⟨ts,e0⟩:=Nj z nm h l;have hA:=X2 z nm h l (Bc (FQ z nm ls) l++⟨.dot,l⟩ :: us);have e1:Bc (EH z nm h ls) l++us=Bc (Di z nm h) l++(Bc (FQ z nm ls) l++⟨.dot,l⟩ :: us):=by
  unfold EH;rw [CF,CF,C7,Lg,PN];simp [Bc]
 have hB:GB (Bc (FQ z nm ls) l++⟨.dot,l⟩ :: us)=.ok (ls.map (P4 z nm l),us):=by
  cases ls with
  | nil=>rfl
  | cons a ls=>
   have hm:=Oy z nm l us ls (Bc (EZ z nm ls) l++⟨.dot,l⟩ :: us).length (by have:=Qi z nm l ls;simp only [AJ,AU];omega);have e:Bc (FQ z nm (a :: ls)) l++⟨.dot,l⟩ :: us=⟨.arrow,l⟩ :: (Bc (GH z nm a) l++(Bc (EZ z nm ls) l++⟨.dot,l⟩ :: us)):=by
    rw [FQ,Ab,CF,CF,show C4 [.sp,.t .arrow,.sp] l=l from rfl,Im];simp [Bc]
   rw [e,GB,if_pos (show E1 _ _=true from rfl)];simp only [List.tail_cons];rw [cH];dsimp only;rw [hm];rfl
 refine Br.one ?_ (by rw [e1,e0];rfl);rw [e1,Fx,if_neg (by rw [e0];exact DY),if_neg (by rw [e0];exact DY),hA];dsimp only;rw [hB];rfl
theorem Uq (k a:Nat) (bs:List Nat) (l:Nat) (us:List Tn):Br (Bc (Ee k (a :: bs)) l++us) [dO l k (a :: bs)] us:=by
 have e1:Bc (Ee k (a :: bs)) l++us=⟨.name (ba (IQ k)),l⟩ :: ⟨.lp,l⟩ :: ⟨.int (GZ a),l⟩ :: (Gv l (bs.map (fun b=>.int (GZ b)))++⟨.rp,l⟩ :: ⟨.dot,l⟩ :: us):=by
  unfold Ee MG;rw [CF];show (⟨.name (ba (IQ k)),l⟩ :: ⟨.lp,l⟩ :: Bc (Et (a :: bs)) l)++[⟨.rp,C4 (Et (a :: bs)) l⟩,⟨.dot,C4 (Et (a :: bs)) l⟩]++us=_;rw [On,LS];simp
 have hA:=U6 (l:=l) (k:=k) (g:=.int (GZ a)) (gs:=bs.map (fun b=>.int (GZ b))) (fun x hx=>by
  simp only [AG,AM] at hx
  rcases hx with rfl | ⟨_,_,rfl⟩ <;> rfl) (⟨.dot,l⟩ :: us)
 refine Br.one ?_ (by rw [e1];rfl);rw [e1,Fx,if_neg (by exact DY),if_neg (by exact DY),hA];rfl
def D5 (back:Bool) (r:C0):List Bu:=if back then (r.body.take 4).reverse else r.body.take 4
def EN (z:Nat) (nm:List UInt8) (back:Bool) (r:C0):List Pc:=if r.body.isEmpty then [] else EH z nm r.head (D5 back r)++[.nl]
def H9 (z:Nat) (f:Ch):List Pc:=Ee (kOf f.rel) (DG z f.L (kOf f.rel))++[.nl]
def CK (z:Nat) (nm:List UInt8) (back:Bool) (rs:List C0) (fs:List Ch):List Pc:=GR z++rs.flatMap (EN z nm back)++fs.flatMap (H9 z)
def EB (z:Nat) (nm:List UInt8) (back:Bool):List C0→Nat→List CM
 | [],_=>[]
 | r :: rs,l=>if r.body.isEmpty then EB z nm back rs l else XY z nm l r.head (D5 back r) :: EB z nm back rs (l+1)
def FL (z:Nat):List Ch→Nat→List CM
 | [],_=>[]
 | f :: fs,l=>dO l (kOf f.rel) (DG z f.L (kOf f.rel)) :: FL z fs (l+1)
theorem Wq (z:Nat) (L:List Int) (k:Nat):∃ a bs,DG z L k=a :: bs:=by
 cases h:DG z L k with
 | nil=>
  have:(DG z L k).length=relK k:=by simp [DG]
  rw [h] at this;have:=(FX k).1;simp at *;omega
 | cons g gs=>exact ⟨g,gs,rfl⟩
theorem PB (k:Nat) (bs:List Nat) (l:Nat):C4 (Ee k bs) l=l:=by
 unfold Ee MG;rw [C7];exact LS bs l
theorem Jy (z:Nat) (nm:List UInt8) (back:Bool):∀ (rs:List C0) (l:Nat) (us:List Tn),Br (Bc (rs.flatMap (EN z nm back)) l++us) (EB z nm back rs l) us
 | [],_,us=>Br.nil us
 | r :: rs,l,us=>by
  rw [A6,EB,EN];split
  ·exact Jy z nm back rs l us
  ·rw [CF,CF,C7,Oc,Ab];show Br (Bc (EH z nm r.head (D5 back r)) l++[]++(Bc (rs.flatMap (EN z nm back)) (l+1)++us)) _ us;rw [BR];exact (TY z nm r.head (D5 back r) l _).trans (is:=[_]) (Jy z nm back rs (l+1) us)
theorem Nd (z:Nat):∀ (fs:List Ch) (l:Nat) (us:List Tn),Br (Bc (fs.flatMap (H9 z)) l++us) (FL z fs l) us
 | [],_,us=>Br.nil us
 | f :: fs,l,us=>by
  obtain ⟨a,bs,e⟩:=Wq z f.L (kOf f.rel);rw [A6,FL,H9,CF,CF,C7,PB,Ab,e];show Br (Bc (Ee (kOf f.rel) (a :: bs)) l++[]++(Bc (fs.flatMap (H9 z)) (l+1)++us)) _ us;rw [BR];exact (Uq (kOf f.rel) a bs l _).trans (is:=[_]) (Nd z fs (l+1) us)
def Xr (z:Nat):List CM:=[.dom (dT 1) ⟨.int (GZ z),1⟩,.rel ⟨.name (ba [97]),1⟩ [dT 1],.rel ⟨.name (ba [98]),1⟩ [dT 1,dT 1],.rel ⟨.name (ba [99]),1⟩ [dT 1,dT 1],.rel ⟨.name (ba [116]),1⟩ [dT 1,dT 1,dT 1]]
theorem Uf (z:Nat) (us:List Tn):Br (Bc (GR z) 1++us) (Xr z) us:=by
 refine Br.trans (is:=[_]) (Br.one (us:=Bc (lC [97] .sp++Ja [98] .sp++Ja [99] .sp++Tj [116] .nl) 1++us) rfl rfl) ?_;refine Br.trans (is:=[_]) (Br.one (us:=Bc (Ja [98] .sp++Ja [99] .sp++Tj [116] .nl) 1++us) rfl rfl) ?_;refine Br.trans (is:=[_]) (Br.one (us:=Bc (Ja [99] .sp++Tj [116] .nl) 1++us) rfl rfl) ?_;refine Br.trans (is:=[_]) (Br.one (us:=Bc (Tj [116] .nl) 1++us) rfl rfl) ?_;exact Br.one rfl rfl
theorem O4 (z l:Nat):C4 (GR z) l=l+1:=rfl
theorem dG {z:Nat} (h1:1≤z) (h8:z≤8):JC (GR z)=true:=by
 have:z=1∨z=2∨z=3∨z=4∨z=5∨z=6∨z=7∨z=8:=by omega
 rcases this with rfl | rfl | rfl | rfl | rfl | rfl | rfl | rfl <;> rfl
def GA (z:Nat) (nm:List UInt8) (back:Bool) (rs:List C0) (fs:List Ch):List CM:=Xr z++EB z nm back rs 2++FL z fs (C4 (rs.flatMap (EN z nm back)) 2)
theorem Oh (z:Nat) (nm:List UInt8) (back:Bool) (rs:List C0) (fs:List Ch) (us:List Tn):Br (Bc (CK z nm back rs fs) 1++us) (GA z nm back rs fs) us:=by
 unfold CK GA;rw [CF,CF,C7,O4,Ab,Ab];exact ((Uf z _).trans (Jy z nm back rs 2 _)).trans (Nd z fs _ us)
theorem Xb {z:Nat} (h1:1≤z) (h8:z≤8) {nm:List UInt8} (hn:M4 nm) (back:Bool) (rs:List C0) (fs:List Ch):JC (CK z nm back rs fs)=true:=by
 have hf:∀ fs:List Ch,JC (fs.flatMap (H9 z))=true:=fun fs=>by
  induction fs with
  | nil=>rfl
  | cons f fs ih=>
   rw [A6,H9,Ab];refine dP _ (fun a ha=>?_) ih;obtain ⟨i,_,rfl⟩:=AM.1 ha;have:=KI h1 f.L i;omega
 have hr:∀ (rs:List C0) (q:List Pc),JC q=true→JC (rs.flatMap (EN z nm back)++q)=true:=fun rs q hq=>by
  induction rs with
  | nil=>exact hq
  | cons r rs ih=>
   rw [A6,EN];split
   ·exact ih
   ·rw [Ab,Ab];exact aM h1 h8 hn _ _ ih
 unfold CK;rw [Ab];exact N4 _ _ (dG h1 h8) rfl (hr rs _ (hf fs))
theorem Jz (z:Nat) (nm:List UInt8) (back:Bool):∀ (rs:List C0) (l:Nat),(EB z nm back rs l).length≤(Bc (rs.flatMap (EN z nm back)) l).length
 | [],_=>AQ _
 | r :: rs,l=>by
  rw [A6,EB,EN];split
  ·exact Jz z nm back rs l
  ·rw [CF,CF,C7,Oc];have:=Jz z nm back rs (l+1);show (EB z nm back rs (l+1)).length+1≤(Bc (EH z nm r.head (D5 back r)) l++[]++Bc (rs.flatMap (EN z nm back)) (l+1)).length;have h2:1≤(Bc (EH z nm r.head (D5 back r)) l).length:=Nat.le_add_left 1 _;simp only [AJ,Ao];omega
theorem Nf (z:Nat):∀ (fs:List Ch) (l:Nat),(FL z fs l).length≤(Bc (fs.flatMap (H9 z)) l).length
 | [],_=>AQ _
 | f :: fs,l=>by
  rw [A6,FL,H9,CF,CF,C7,PB];have:=Nf z fs (l+1);show (FL z fs (l+1)).length+1≤(Bc (Ee (kOf f.rel) (DG z f.L (kOf f.rel))) l++[]++Bc (fs.flatMap (H9 z)) (l+1)).length;have h2:1≤(Bc (Ee (kOf f.rel) (DG z f.L (kOf f.rel))) l).length:=Nat.le_add_left 1 _;simp only [AJ,Ao];omega
theorem Oi (z:Nat) (nm:List UInt8) (back:Bool) (rs:List C0) (fs:List Ch):(GA z nm back rs fs).length≤(Bc (CK z nm back rs fs) 1).length:=by
 unfold CK GA;rw [CF,CF,C7,O4,show 1+1=2 from rfl];have h1:=Jz z nm back rs 2;have h2:=Nf z fs (C4 (rs.flatMap (EN z nm back)) 2);have h3:(Xr z).length≤(Bc (GR z) 1).length:=Nat.le_of_ble_eq_true rfl;simp only [AJ] at h1 h2 ⊢;omega
theorem Qb {z:Nat} (h1:1≤z) (h8:z≤8) {nm:List UInt8} (hn:M4 nm) {back:Bool} {rs:List C0} {fs:List Ch} {toks:List Tn} {m:Mean} (hR:Df (ba (Ae (CK z nm back rs fs)))=.ok (toks,m)):Bh E7 (GA z nm back rs fs)=.ok m:=by
 have hs:=E2 (CK z nm back rs fs) (Ae (CK z nm back rs fs)).length 1 (Xb h1 h8 hn back rs fs) (AQ _);have hi:=Oh z nm back rs fs [⟨.fin,C4 (CK z nm back rs fs) 1⟩];have hc:=Oi z nm back rs fs;unfold Df at hR;split at hR
 ·cases hR
 rw [C9,hs] at hR;dsimp only at hR;have hq:(B3 (Bc (CK z nm back rs fs) 1) (C4 (CK z nm back rs fs) 1)).length=((Bc (CK z nm back rs fs) 1).length - (GA z nm back rs fs).length+1)+(GA z nm back rs fs).length:=by
  simp only [B3,AJ,AU,Ao];omega
 have e1:DO (B3 (Bc (CK z nm back rs fs) 1) (C4 (CK z nm back rs fs) 1)).length (B3 (Bc (CK z nm back rs fs) 1) (C4 (CK z nm back rs fs) 1))=.ok (GA z nm back rs fs):=by
  rw [hq];unfold B3;rw [hi];have e2:∀ q,DO (q+1) [⟨.fin,C4 (CK z nm back rs fs) 1⟩]=.ok []:=fun q=>rfl;rw [e2];simp
 rw [e1] at hR;dsimp only at hR;cases hS:Bh E7 (GA z nm back rs fs) with
 | error f=>rw [hS] at hR;cases hR
 | ok me=>
  rw [hS] at hR;dsimp only at hR;cases hL:GI me with
  | error f=>rw [hL] at hR;cases hR
  | ok _=>rw [hL] at hR;cases hR;rfl
def QZ:List (ByteArray×List Nat):=[(ba [97],[0]),(ba [98],[0,0]),(ba [99],[0,0]),(ba [116],[0,0,0])]
def BG (z:Nat) (cs:List Ac):Mean:=⟨[(ba [100],(z:Int))],QZ,cs⟩
theorem J9 {z:Nat} (h1:1≤z) (h8:z≤8):Bh E7 (Xr z)=.ok (BG z []):=by
 have:z=1∨z=2∨z=3∨z=4∨z=5∨z=6∨z=7∨z=8:=by omega
 rcases this with rfl | rfl | rfl | rfl | rfl | rfl | rfl | rfl <;> rfl
theorem Qn (z:Nat):∀ (fs:List Ch) (l:Nat),∀ i∈FL z fs l,∃ h ls,i=.clause h ls∧∀ l∈ls,l.no=false
 | [],_,i,hi=>by cases hi
 | f :: fs,l,i,hi=>by
  rw [FL] at hi;rcases AG.1 hi with rfl | hi
  ·exact ⟨_,_,rfl,fun a ha=>by cases ha⟩
  ·exact Qn z fs (l+1) i hi
theorem YV (gs:List Sg) (h:∀ g∈gs,(Cd g).length≤1):(Ae (E0 gs)).length≤3 * gs.length:=by
 induction gs with
 | nil=>simp [E0,Ae]
 | cons g gs ih=>
  have:=ih (fun x hx=>h x (by simp [hx]));have h1:=h g (by simp);rw [show E0 (g :: gs)=.t .comma :: .sp :: .t g :: E0 gs from rfl,CJ,CJ,CJ];simp only [AJ,AU];have a1:(Iz (.t .comma)).length=1:=rfl;have a2:(Iz .sp).length=1:=rfl;have a3:(Iz (.t g)).length=(Cd g).length:=rfl;omega
theorem YR (z:Nat) (nm:List UInt8) (x:Int):(Cd (Er z nm x)).length≤1:=by
 unfold Er;split <;> exact AQ _
theorem Q1 (k:Nat) (gs:List Sg) (h:∀ g∈gs,(Cd g).length≤1):(Ae (Jd k gs)).length≤2+3 * gs.length:=by
 unfold Jd;rw [CJ,CJ];simp only [AJ];have a1:(Iz (P0 (IQ k))).length=1:=by unfold IQ;split <;> rfl
 have a2:(Iz (.t .lp)).length=1:=rfl;cases gs with
 | nil=>simp [Ga,Ae] at *;omega
 | cons g gs=>
  have:=YV gs (fun x hx=>h x (by simp [hx]));have h1:=h g (by simp);rw [show Ga (g :: gs)=.t g :: E0 gs from rfl,CJ];simp only [AJ,AU];have a3:(Iz (.t g)).length=(Cd g).length:=rfl;omega
theorem NB (z:Nat) (nm:List UInt8) (L:List Int) (k:Nat):∀ g∈EE z nm L k,(Cd g).length≤1:=fun g hg=>by
 obtain ⟨i,_,rfl⟩:=AM.1 hg;exact YR ..
theorem Iu (z:Nat) (nm:List UInt8) (l:Bu):(Ae (Di z nm l)).length≤12:=by
 unfold Di;rw [Ay,AJ];have:=Q1 (kOf l.rel) _ (NB z nm l.L (kOf l.rel));have h2:(EE z nm l.L (kOf l.rel)).length=relK (kOf l.rel):=by simp [EE]
 have h3:=(FX (kOf l.rel)).2;have h4:(Ae [.t .rp]).length=1:=rfl;omega
theorem UK (z:Nat) (nm:List UInt8) (l:Bu):(Ae (GH z nm l)).length≤13:=by
 unfold GH;rw [Ay,AJ];have:=Iu z nm l;have h2:(Ae (if l.no=true then [Pc.t .bang] else [])).length≤1:=by split <;> decide
 omega
theorem Oq (z:Nat) (nm:List UInt8):∀ (ls:List Bu),(Ae (EZ z nm ls)).length≤15 * ls.length
 | []=>AQ _
 | l :: ls=>by
  have:=Oq z nm ls;have h2:=UK z nm l;rw [show EZ z nm (l :: ls)=[.t .comma,.sp]++(GH z nm l++EZ z nm ls) by simp [EZ],Ay,Ay];simp only [AJ,AU];have a1:(Ae [.t .comma,.sp]).length=2:=rfl;omega
theorem Qu (z:Nat) (nm:List UInt8) (ls:List Bu):(Ae (FQ z nm ls)).length≤17 * ls.length:=by
 cases ls with
 | nil=>exact AQ _
 | cons l ls=>
  have:=Oq z nm ls;have h2:=UK z nm l;rw [FQ,Ay,Ay];simp only [AJ,AU];have a1:(Ae [.sp,.t .arrow,.sp]).length=4:=rfl;omega
theorem WH (back:Bool) (r:C0):(D5 back r).length≤4:=by
 unfold D5;split <;> simp <;> omega
theorem Kc (z:Nat) (nm:List UInt8) (back:Bool) (r:C0):(Ae (EN z nm back r)).length≤100:=by
 unfold EN;split
 ·simp [Ae]
 ·unfold EH;rw [Ay,Ay,Ay];have h1:=Iu z nm r.head;have h2:=Qu z nm (D5 back r);have h3:=WH back r;simp only [AJ];have a1:(Ae [.t .dot]).length=1:=rfl;have a2:(Ae [.nl]).length=1:=rfl;omega
theorem Mx (k z:Nat) (L:List Int):(Ae (Ee k (DG z L k))).length≤12:=by
 unfold Ee;rw [Ay,AJ];have h1:=OI k (DG z L k);unfold No at h1;rw [C9] at h1;have h2:(DG z L k).length=relK k:=by simp [DG]
 have h3:=(FX k).2;have a1:(Ae [.t .rp,.t .dot]).length=2:=rfl;omega
end
end Go.Proofs.YtgjomknpjigkhaaGreatDoor
