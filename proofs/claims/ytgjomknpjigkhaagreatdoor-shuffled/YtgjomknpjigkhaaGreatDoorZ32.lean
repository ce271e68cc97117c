import Derived.Test.YtgjomknpjigkhaaGreatDoorZ29
import Derived.Test.YtgjomknpjigkhaaGreatDoorZ31
namespace Go.Proofs.YtgjomknpjigkhaaGreatDoor
open Go.Proofs.Tryz
set_option maxRecDepth 100000
set_option maxHeartbeats 4000000
section
open Go.RowKit Go.Shelf
attribute [local go_sem] Oper.semAt_some
theorem QJ {l:List Nat} (h:l=[0,2]∨l=[2,0]):Q4 I2 1 l:=⟨⟨ba [112],[0,0],rfl,by rcases h with rfl | rfl <;> rfl,fun k x d h1 h2=>by
 have hd:d=0:=by
  match k,h2 with
  | 0,h2=>simpa using h2.symm
  | 1,h2=>simpa using h2.symm
  | k+2,h2=>simp at h2
 subst hd;show (x:Int)<3;rcases h with rfl | rfl
 ·match k,h1 with
  | 0,h1=>simp at h1;omega
  | 1,h1=>simp at h1;omega
  | k+2,h1=>simp at h1
 ·match k,h1 with
  | 0,h1=>simp at h1;omega
  | 1,h1=>simp at h1;omega
  | k+2,h1=>simp at h1⟩⟩
theorem row2 (W:World) (a b:Nat):B8 (W.alloc (.cells #[.int .i64 (a:Int),.int .i64 (b:Int)] 3)) W.heap.size (Qq [a,b]):=⟨_,AK.new W _ 3,fun i x hx=>by
 match i with
 | 0=>simp [Qq] at hx;subst hx;rfl
 | 1=>simp [Qq] at hx;subst hx;rfl
 | i+2=>simp [Qq] at hx⟩
theorem Sy (w:World):Calls prog 13 #[] w fun e w'=>e=.returned (.bool true)∧AA [] w w':=by
 obtain ⟨toks,hread⟩:=VO;have hfine:=LM hread;have hld:=AD (fun (W:World)=>Mo (w:=W) (ba (Ae Ez)) (by decide) (fun t m h=>by rw [hread] at h;cases h;decide));rw [hread] at hld;have hck:=AD (fun (W:World)=>Ld (w:=W) (ba (Ae LG)) (by decide));rw [VU] at hck;have et:({ data:=([100,111,109,32,100,32,51,59,32,114,101,108,32,101,40,100,44,32,100,41,59,32,114,101,108,32,112,40,100,44,32,100,41,59,32,101,40,48,44,32,49,41,46,32,101,40,49,44,32,50].append [41,46,32,112,40,88,44,32,89,41,32,58,45,32,101,40,88,44,32,89,41,46,32,112,40,88,44,32,90,41,32,58,45,32,112,40,88,44,32,89,41,44,32,101,40,89,44,32,90,41,46]).toArray }:ByteArray)=ba (Ae Ez):=by rfl
 have et2:({ data:=#[100,111,109,32,100,32,51,59,32,100,111,109,32,100,32,50,59] }:ByteArray)=ba (Ae LG):=by rfl
 have ep:({ data:=#[112] }:ByteArray)=ba [112]:=rfl;have hp:Dp (I2.rels.map Prod.fst) (ba [112])=some 1:=by decide
 go_in
 rw [et,et2,ep];generalize ba (Ae Ez)=t1 at *;generalize ba (Ae LG)=t2 at *;generalize ba [112]=sp at *;clear et et2 ep hread;go_wp2_with fail
 refine (hld.out _).mono ?_;rintro e W1 ⟨⟨eb,bb,B,S,gr,cr,rs,tv,mv,ka,ks,kc,vals,rk,rfl,hM⟩,k1⟩;obtain ⟨hr1,hr2,hr3⟩:=Sx hM.lay (hM.lays hfine);have kF:=AA.alloc [] W1 (.cells #[.int .i64 0,.int .i64 0] 28);have hF:=AK.new W1 #[.int .i64 0,.int .i64 0] 28;have zF:=AX W1 (.cells #[.int .i64 0,.int .i64 0] 28);generalize hWF:W1.alloc (.cells #[.int .i64 0,.int .i64 0] 28)=WF at *;obtain ⟨c0,f0,c1,f1,hat,hk⟩:=Nt hF (.int .i64 0) (.int .i64 0);have k2:AA [] W1 ((WF.setCell ⟨W1.heap.size,0,none⟩ (.int .i64 0)).setCell ⟨W1.heap.size,1,none⟩ (.int .i64 0)):=kF.trans_new hk (fun i hi=>.inr (by simp only [AF] at hi;omega));have g0:=hat.cell 0;have g1:=hat.cell 1;simp at g0 g1;have hM2:=hM.keeps0 k2;have htp:=AD (Js hM2.eng hfine hM2.cell hp (i:=1) (nm:=ba [112]) (cols:=[0,0]) rfl);rw [show [0,0].length=2 from rfl,hr3] at htp;have K2:=AD k2;clear hat hk hF kF k2 hM;go_wp2_with fail
 refine htp.out.mono ?_;rintro e W3 ⟨v,xs,rfl,hxs,hown,_,k3⟩;have hl3:xs.length=3:=by have:=congrArg List.length hxs;simpa using this
 rw [hl3] at hown;obtain ⟨av,cv,hv⟩:=Al hown;subst hv;have hM3:=hM2.keeps0 k3;have kA:=AA.alloc [] W3 (.cells #[.int .i64 0,.int .i64 2] 3);have hrA:=row2 W3 0 2;have hMA:=hM3.keeps0 kA;have hra:=AD (JA (cap:=2) hMA.eng hfine.ok hMA.cell hp hrA (QJ (.inl rfl)));rw [hr1] at hra;have Hk3:=AD (K2.out.trans k3);clear hown htp hxs hl3 c0 c1 f0 f1 g0 g1 k3;simp only [AU,Ao] at hra;go_wp2_with fail
 refine hra.out.mono ?_;rintro e W4 ⟨rfl,k4⟩;have hM4:=hMA.keeps0 k4;have kB:=AA.alloc [] W4 (.cells #[.int .i64 2,.int .i64 0] 3);have hrB:=row2 W4 2 0;have hMB:=hM4.keeps0 kB;have hrb:=AD (JA (cap:=2) hMB.eng hfine.ok hMB.cell hp hrB (QJ (.inr rfl)));rw [hr2] at hrb;simp only [AU,Ao] at hrb;have Hk4:=AD ((Hk3.out.trans kA).trans k4);go_wp2_with fail
 refine hrb.out.mono ?_;rintro e W5 ⟨rfl,k5⟩;go_wp2_with fail
 refine (hck.out _).mono ?_;rintro e W6 ⟨rfl,k6⟩;have kG:=AA.alloc [] W6 (.cells #[.int .i64 0,.int .i64 0] 28);have hG:=AK.new W6 #[.int .i64 0,.int .i64 0] 28;have zG:=AX W6 (.cells #[.int .i64 0,.int .i64 0] 28);generalize hWG:W6.alloc (.cells #[.int .i64 0,.int .i64 0] 28)=WG at *;obtain ⟨c0,f0,c1,f1,hat,hk⟩:=Nt hG (.int .i64 7) (.int .i64 1);have g0:=hat.cell 0;have g1:=hat.cell 1;simp at g0 g1;have Hfin:=AD ((((Hk4.out.trans kB).trans k5).trans k6).trans_new (kG.trans_new hk (fun i hi=>.inr (by simp only [AF] at hi;omega))) (fun i hi=>by simp at hi));clear hat hk hG kG hM4 hMB hMA hM3 hM2;simp only [NZ];go_wp2_with fail
 go_ret
 exact ⟨rfl,k1.trans Hfin.out⟩
def LP (c n:Int):Int:=(if c<0 then -(c+1) else c) % n
theorem Ec (c:Int) {n:Int} (h:0<n):0≤LP c n∧LP c n<n:=⟨Int.emod_nonneg _ (by omega),Int.emod_lt_of_pos _ h⟩
theorem Fp {w:World} (c n:Int) (c0:-9223372036854775808≤c) (c1:c≤9223372036854775807) (n0:0<n) :
  Calls prog 30 #[.int .i64 c,.int .i64 n] w fun e w'=>e=.returned (.int .i64 (LP c n))∧w' = w:=by
 have hn:¬ n=0:=by omega
 by_cases hc:c<0
 ·have h1:wrap64 (c+1)=c+1:=by unfold wrap64;omega
  have h2:wrap64 (-(c+1)) = -(c+1):=by unfold wrap64;omega
  have h3:-((c+1).tmod n)=LP c n:=by
   unfold LP;rw [if_pos hc,←Int.neg_tmod];exact Int.tmod_eq_emod_of_nonneg (by omega)
  have H3:=AD h3;clear h3;go_in
  go_wp2
  go_ret
  exact ⟨by rw [←H3.out];rfl,rfl⟩
 ·have h3:c % n=LP c n:=by
   unfold LP;rw [if_neg hc]
  have H3:=AD h3;clear h3;go_in
  go_wp2
  go_ret
  exact ⟨by rw [←H3.out];rfl,rfl⟩
def mZ (w:World) (m:Mean) (e:Ending) (w':World):Prop:=∃ eb bb B S gr cr rs tv mv ka ks kc vals rk,e=.returned (.pointer (some ⟨eb,0,none⟩))∧VG w' w.heap.size eb m bb B S gr cr rs tv mv ka ks kc vals rk
theorem L8 {w:World} (s:ByteArray) (hs:s.size≤9223372036854775807) {toks:List Tn} {m:Mean} (hr:Df s=.ok (toks,m)) (hne:0<m.rels.length):Calls prog 21 #[.string s] w fun e w'=>mZ w m e w'∧AA [] w w':=by
 have hld:=AD (Mo (w:=w) s hs (fun t m' h=>by rw [hr] at h;cases h;exact hne));rw [hr] at hld;clear hr;go_in
 go_wp2_with fail
 refine hld.out.mono ?_;rintro e W1 ⟨⟨eb,bb,B,S,gr,cr,rs,tv,mv,ka,ks,kc,vals,rk,rfl,hM⟩,k1⟩;have kF:=AA.alloc [] W1 (.cells #[.int .i64 0,.int .i64 0] 28);have hF:=AK.new W1 #[.int .i64 0,.int .i64 0] 28;have zF:=AX W1 (.cells #[.int .i64 0,.int .i64 0] 28);generalize hWF:W1.alloc (.cells #[.int .i64 0,.int .i64 0] 28)=WF at *;obtain ⟨c0,f0,c1,f1,hat,hk⟩:=Nt hF (.int .i64 0) (.int .i64 0);have k2:AA [] W1 ((WF.setCell ⟨W1.heap.size,0,none⟩ (.int .i64 0)).setCell ⟨W1.heap.size,1,none⟩ (.int .i64 0)):=kF.trans_new hk (fun i hi=>.inr (by simp only [AF] at hi;omega));have g0:=hat.cell 0;have g1:=hat.cell 1;simp at g0 g1;have hM2:=AD (hM.keeps0 k2);have K2:=AD (k1.trans k2);clear hat hk hF kF k2 hM k1;go_wp2_with fail
 go_ret
 exact ⟨⟨eb,bb,B,S,gr,cr,rs,tv,mv,ka,ks,kc,vals,rk,rfl,hM2.out⟩,K2.out⟩
end
section
open Go.RowKit
def IZ (w:World) (av:Option Addr) (es:List Int):Prop:=∀ (i:Nat) (x:Int),es[i]?=some x→-9223372036854775808≤x∧x≤9223372036854775807∧∃ a,av=some a∧w.cell? (a.add i)=some (.int .i64 x)
theorem SX {k:Nat} (h:k<10):Kn (k:Int)=GZ k:=by
 have:k=0∨k=1∨k=2∨k=3∨k=4∨k=5∨k=6∨k=7∨k=8∨k=9:=by omega
 rcases this with rfl | rfl | rfl | rfl | rfl | rfl | rfl | rfl | rfl | rfl <;> rfl
theorem PF (k:Nat):(GZ k).size=1:=rfl
theorem DU (a b:List UInt8):ba a++ba b=ba (a++b):=by
 apply Lf;simp [ba]
theorem IZ.at {w wr:World} {av:Option Addr} {es:List Int} (h:IZ w av es) (k:AA [] w wr) {i:Nat} {x:Int} (hx:es[i]?=some x):∃ a,av=some a∧wr.cell? (a.add i)=some (.int .i64 x):=by
 obtain ⟨_,_,a,rfl,h1⟩:=h i x hx;refine ⟨a,rfl,?_⟩;have hb:=World.block_lt_of_cell? w _ h1;rw [←h1];simp [World.cell?,k.block _ hb (by simp)]
end
section
open Go.RowKit
attribute [local go_sem] Oper.semAt_some
def Ij (k:Nat):ByteArray:=match k with | 0=>ba [97] | 1=>ba [98] | 2=>ba [99] | _=>ba [116]
def relK (k:Nat):Nat:=match k with | 0=>1 | 1=>2 | 2=>2 | _=>3
theorem Gf (w:World) {k:Nat} (hk:k<4):Calls prog 43 #[.int .i64 (k:Int)] w fun e w'=>e=.returned (.int .i64 (relK k:Int))∧AA [] w w':=by
 have kA:=AA.alloc [] w (.cells #[.int .i64 1,.int .i64 2,.int .i64 2,.int .i64 3] 3);have hA:=AK.new w #[.int .i64 1,.int .i64 2,.int .i64 2,.int .i64 3] 3;have hc:(w.alloc (.cells #[.int .i64 1,.int .i64 2,.int .i64 2,.int .i64 3] 3)).cell? ⟨w.heap.size,k,none⟩=some (.int .i64 (relK k:Int)):=by
  rw [hA.cell];have:k=0∨k=1∨k=2∨k=3:=by omega
  rcases this with rfl | rfl | rfl | rfl <;> rfl
 have hkI:(k:Int)<4:=by omega
 generalize relK k=c at *;clear hA;go_in
 go_wp2_with fail
 go_ret
 exact ⟨rfl,kA⟩
theorem I9 (w:World):Calls prog 28 #[] w fun e w'=>e=.returned (.slice (some ⟨w.heap.size,0,none⟩) 4 4)∧(∀ k,k<4→w'.cell? ⟨w.heap.size,k,none⟩=some (.string (Ij k)))∧AA [] w w':=by
 have kA:=AA.alloc [] w (.cells #[.string (ba [97]),.string (ba [98]),.string (ba [99]),.string (ba [116])] 9);have hA:=AK.new w #[.string (ba [97]),.string (ba [98]),.string (ba [99]),.string (ba [116])] 9;have hc:∀ k,k<4→(w.alloc (.cells #[.string (ba [97]),.string (ba [98]),.string (ba [99]),.string (ba [116])] 9)).cell? ⟨w.heap.size,k,none⟩=some (.string (Ij k)):=fun k hk=>by
  rw [hA.cell];have:k=0∨k=1∨k=2∨k=3:=by omega
  rcases this with rfl | rfl | rfl | rfl <;> rfl
 have Hc:=AD hc;clear hA hc;go_in
 go_wp2_with fail
 go_ret
 exact ⟨rfl,Hc.out,kA⟩
theorem J3 {w:World} (c n:Int) (c0:-9223372036854775808≤c) (c1:c≤9223372036854775807) (n0:0<n) :
  Calls prog 44 #[.int .i64 c,.int .i64 n] w fun e w'=>e=.returned (.int .i64 (LP c n))∧w' = w:=by
 have hp:=AD (Fp (w:=w) c n c0 c1 n0);clear c0 c1 n0;go_in
 go_wp2_with fail
 refine hp.out.mono ?_;rintro e w1 ⟨rfl,rfl⟩;go_wp2_with fail
 go_ret
 exact ⟨rfl,rfl⟩
theorem Ps {w:World} (c:Int) (c0:-9223372036854775808≤c) (c1:c≤9223372036854775807) :
  Calls prog 19 #[.int .i64 c] w fun e w'=>e=.returned (.int .i64 (1+LP c 4))∧w' = w:=by
 have hp:=AD (Fp (w:=w) c 4 c0 c1 (by decide));obtain ⟨n0,n1⟩:=Ec c (n:=4) (by decide);generalize LP c 4=q at *;clear c0 c1;go_in
 go_wp2_with fail
 refine hp.out.mono ?_;rintro e w1 ⟨rfl,rfl⟩;go_wp2_with fail
 go_ret
 exact ⟨rfl,rfl⟩
def IQ (k:Nat):List UInt8:=match k with | 0=>[97] | 1=>[98] | 2=>[99] | _=>[116]
theorem Ri:∀ k:Nat,Ij k=ba (IQ k)
 | 0=>rfl
 | 1=>rfl
 | 2=>rfl
 | _+3=>rfl
def Et:List Nat→List Pc
 | []=>[]
 | [a]=>[ZM a]
 | a :: b :: l=>ZM a :: .t .comma :: Et (b :: l)
theorem Oo:∀ (l:List Nat) (b:Nat),Et (l++[b])=if l=[] then [ZM b] else Et l++[.t .comma,ZM b]
 | [],_=>rfl
 | [a],b=>rfl
 | a :: c :: l,b=>by
  have ih:=Oo (c :: l) b;rw [if_neg (by simp)] at ih;rw [if_neg (by simp),A8,A8,Et,←A8,ih];rfl
def MG (k:Nat) (l:List Nat):List Pc:=P0 (IQ k) :: .t .lp :: Et l
def Ee (k:Nat) (l:List Nat):List Pc:=MG k l++[.t .rp,.t .dot]
def colOf (z:Nat) (L:List Int) (i:Nat):Nat:=match L[i]? with | some x=>(LP x z).toNat | none=>0
def DG (z:Nat) (L:List Int) (k:Nat):List Nat:=(List.range (relK k)).map (colOf z L)
theorem KI {z:Nat} (hz:1≤z) (L:List Int) (i:Nat):colOf z L i<z:=by
 unfold colOf;cases L[i]? with
 | none=>exact hz
 | some x=>have:=Ec x (n:=(z:Int)) (by omega);dsimp only;omega
def No (k:Nat) (l:List Nat):ByteArray:=ba (Ae (MG k l))
theorem YJ (k:Nat):Ij k++ba [40]=No k []:=by
 rw [Ri,DU];unfold No MG P0;rw [CJ,CJ];simp [Iz,Cd,BB,ba,Ae,Et]
theorem XN (k b:Nat):No k []++GZ b=No k [b]:=by
 unfold No GZ;rw [DU];simp [MG,Et,Ae,Iz,Cd,BB,ZM,GZ,ba]
theorem TF {k:Nat} {l:List Nat} (h:l≠[]) (b:Nat):No k l++ba [44]++GZ b=No k (l++[b]):=by
 unfold No GZ MG;rw [DU,DU,Oo,if_neg h];simp [Ae,Iz,Cd,BB,ZM,GZ,ba]
theorem fV (k:Nat) (l:List Nat):No k l++ba [41,46]=ba (Ae (Ee k l)):=by
 unfold No Ee;rw [DU,Ay];rfl
theorem Yw (l:List Nat):(Ae (Et l)).length≤2 * l.length:=by
 induction l with
 | nil=>simp [Et,Ae]
 | cons a l ih=>
  cases l with
  | nil=>simp [Et,Ae,Iz,Cd,BB,ZM,GZ,ba]
  | cons b l=>
   simp only [Et,CJ,AJ,AU] at ih ⊢;simp [Iz,Cd,BB,ZM,GZ,ba];omega
theorem OI (k:Nat) (l:List Nat):(No k l).size≤2+2 * l.length:=by
 unfold No MG;rw [C9,CJ,CJ,AJ,AJ];have:=Yw l;have h1:(Iz (P0 (IQ k))).length=1:=by unfold IQ;split <;> rfl
 have h2:(Iz (.t .lp)).length=1:=rfl;omega
end
section
open Go.RowKit Go.Shelf
attribute [local go_sem] Oper.semAt_some
def nC (w:World) (k:Nat) (l:List Nat) (e:Ending) (w':World):Prop:=∃ v,e=.returned (.tuple #[.string (ba (Ae (Ee k l))),.string (Ij k),v])∧w'.ownsRow w.heap.size 3 1 v l.length (ints (Qq l))∧AA [] w w'
theorem MH (w:World) {rel:Int} (r0:-9223372036854775808≤rel) (r1:rel≤9223372036854775807) {av:Option Addr} {L:List Int} {cap:Nat} (hL:IZ w av L) {z:Nat} (hz:1≤z) (hz8:z≤8) {k:Nat} (hk:LP rel 4=(k:Int)) (hk4:k<4):Calls prog 24 #[.agg #[.int .i64 rel,.slice av L.length cap],.int .i64 (z:Int)] w (nC w k (DG z L k)):=by
 obtain ⟨i0,hi0,hz0,hz1,hz2⟩:=info_parts MD;have hpk:=AD (fun (W:World)=>Fp (w:=W) rel 4 r0 r1 (by decide));rw [hk] at hpk;have hrl:=AD (fun (W:World)=>I9 W);have hcl:=AD (fun (W:World)=>Gf W hk4);have kF:=AA.alloc [] w (.cells #[.int .i64 rel,.slice av L.length cap] 51);have hF:=AK.new w #[.int .i64 rel,.slice av L.length cap] 51;have d0:=hF.cell 0;simp at d0;have HF:=AD hF;have HkF:=AD kF;clear hF kF r0 r1 hk;have e1:({ data:=#[40] }:ByteArray)=ba [40]:=rfl;have e2:({ data:=#[44] }:ByteArray)=ba [44]:=rfl;have e3:({ data:=#[41,46] }:ByteArray)=ba [41,46]:=rfl;go_in
 simp only [e1,e2,e3];clear e1 e2 e3;generalize hp1:ba [40]=t1 at *;generalize hp2:ba [44]=t2 at *;generalize hp3:ba [41,46]=t3 at *;have s1:t1.size=1:=by rw [←hp1];rfl
 have s2:t2.size=1:=by rw [←hp2];rfl
 have s3:t3.size=2:=by rw [←hp3];rfl
 have P1:=AD hp1;have P2:=AD hp2;have P3:=AD hp3;clear hp1 hp2 hp3;go_wp2_with fail
 refine (hpk.out _).mono ?_;rintro e W1 ⟨rfl,e1⟩;subst e1;go_wp2_with fail
 have zF:=AX w (.cells #[.int .i64 rel,.slice av L.length cap] 51);generalize w.alloc (.cells #[.int .i64 rel,.slice av L.length cap] 51)=WF at *;refine (hrl.out _).mono ?_;rintro e W2 ⟨rfl,hcs,k2⟩;have ZF:=AD zF;clear zF;have q1:=hcs k hk4;have hkI:(k:Int)<4:=by omega
 have s4:(Ij k).size=1:=by rw [Ri];unfold IQ;split <;> rfl
 have hst:=YJ k;rw [P1.out] at hst;have Hst:=AD hst;obtain ⟨cols,hco⟩:∃ cols,DG z L k=cols:=⟨_,rfl⟩;have hcl3:cols.length=relK k:=by rw [←hco];simp [DG]
 have hck3:relK k≤3:=by unfold relK;split <;> omega
 have hcat:∀ i,i<relK k→cols[i]?=some (colOf z L i):=fun i hi=>by rw [←hco];simp [DG,hi]
 have Hco:=AD hco;have Hcat:=AD hcat;have Hcl3:=AD hcl3;have Hcs:=AD hcs;have K2:=AD k2;clear hcs hst hco hcat hcl3 k2;generalize hnm:Ij k=nm at *;have Hnm:=AD hnm;clear hnm;go_wp2_with fail
 rw [Hst.out];clear q1 d0 s4;obtain ⟨n,hn⟩:∃ n,relK k=n:=⟨_,rfl⟩;rw [hn] at hcl Hcat Hcl3 hck3;clear hn;go_loopw [8,9,10] (fun x y q wr=>∃ (i:Nat),y=.string (No k (cols.take i))∧q=.int .i64 i∧i≤n∧Hid (wr.ownsRow WF.heap.size 3 1 x i (ints (Qq (cols.take i))))∧AA [] WF wr) (fun _ _ q _=>((n:Int) - intOf q).toNat)
 case atStart=>exact ⟨0,rfl,rfl,by omega,AD (World.ownsRow_nil ..),K2.out⟩
 case round=>
  obtain ⟨i,rfl,rfl,hi,ho,hkw⟩:=hrel;obtain ⟨xa,xc,hxv⟩:=Al ho.out;subst hxv;by_cases hin:i<n
  ·have hiI:(i:Int)<n:=(by omega);have hci:=Hcat.out i hin;have hc8:colOf z L i<8:=by have:=KI hz L i;omega
   have hit:=AD (fun (W:World)=>G0 ((colOf z L i:Nat):Int) (by omega) (by omega) W);rw [SX (by omega)] at hit;have htk:cols.take (i+1)=cols.take i++[colOf z L i]:=by rw [An,hci];rfl
   have hsz:=OI k (cols.take i);have hszl:(cols.take i).length=i:=by rw [BH,CA (by have:=Hcl3.out;omega)]
   have z9:=PF (colOf z L i);have hsz8:(No k (cols.take i)).size≤8:=(by omega);have Htk:=AD htk;clear hsz htk hci;by_cases hiL:i<L.length
   ·have hiLI:(i:Int)<L.length:=(by omega);obtain ⟨x,hx⟩:∃ x,L[i]?=some x:=⟨_,AB hiL⟩;obtain ⟨x0,x1,_⟩:=hL i x hx;have hnum:=AD (fun (W:World)=>J3 (w:=W) x (z:Int) x0 x1 (by omega));have hpx:LP x (z:Int)=((colOf z L i:Nat):Int):=by
     have:=Ec x (n:=(z:Int)) (by omega);unfold colOf;rw [hx];show _=(((LP x (z:Int)).toNat:Nat):Int);omega
    rw [hpx] at hnum;obtain ⟨ad,had,q0⟩:=hL.at (HkF.out.trans hkw) hx;subst had;generalize colOf z L i=c at *;have Q0:=AD q0;clear hpx hx q0;go_wp2_with fail
    refine (hcl.out _).mono ?_;rintro e W5 ⟨rfl,k5⟩;have q0:W5.cell? (ad.add i)=some (.int .i64 x):=by
     rw [←Q0.out];have hb:=World.block_lt_of_cell? _ _ Q0.out;simp [World.cell?,k5.block _ hb (by simp)]
    have Ho:=AD (AH ho.out k5);have K5:=AD (hkw.trans k5);have d1:=(HF.out.keeps K5.out).cell 1;simp at d1;clear k5 ho Q0 hkw;go_wp2_with fail
    refine (hnum.out _).mono ?_;rintro e W5' ⟨rfl,e5⟩;have e6:=e5.symm;subst e6;clear d1 q0;have kC:=AA.alloc [] W5 (.cells #[.int .i64 (c:Int)] 3);have zC:=AX W5 (.cells #[.int .i64 (c:Int)] 3);have hrowC:=AH Ho.out kC;have hone:∀ (j:Nat) (u:Value),[Value.int .i64 (c:Int)][j]?=some u→(W5.alloc (.cells #[.int .i64 (c:Int)] 3)).cell? ((⟨W5.heap.size,0,none⟩:Addr).add j)=some u:=by
     intro j u hu;rw [Addr.add_lit,Ag,(AK.new W5 #[.int .i64 (c:Int)] 3).cell];match j with
     | 0=>simpa using hu
     | j+1=>simp at hu
    have hbase:WF.heap.size≤(W5.alloc (.cells #[.int .i64 (c:Int)] 3)).heap.size:=by rw [zC];have:=K5.out.size;omega
    clear zC;go_wp2_with (at_builtin;refine wpList_append_own_at _ rfl _ _ 40 rfl WF.heap.size 3 i0 (.int .i64 0) 1 8 underlying40 hi0 hz0 hz1 hz2 rfl (by decide) _ i _ rfl hrowC ⟨W5.heap.size,0,none⟩ 1 1 [.int .i64 (c:Int)] rfl (by simp) hone (by simp [Value.oneCell']) (by unfold maxLen;omega) (by omega) hbase ?_)
    intro v6 W6 hown6 hgrow6 hnil6 hat6;obtain ⟨g6,cp6,hv6⟩:=EL hown6;subst hv6;have k6:=grownBy_keeps' hgrow6 (Aa (.slice xa i xc)) (fun r e=>.inl (by simp [Aa,e]));have K6:=AD (K5.out.trans_new ((kC.mono (T':=Aa (.slice xa i xc)) (by simp)).trans k6) (fun j hj=>.inr (As hrowC j (by simpa [Aa] using hj)).1));have Ho6:Hid (W6.ownsRow WF.heap.size 3 1 (.slice (some ⟨g6,0,none⟩) (i+1) cp6) (i+1) (ints (Qq (cols.take (i+1))))):=AD (by rw [Htk.out];simpa [ints,Qq] using hown6);clear hown6 hgrow6 hnil6 hat6 k6 kC hrowC hone hbase Ho;rcases C1 i with hi0 | hi0
    ·subst hi0;have Hone:Hid (No k (cols.take 0)++GZ c=No k (cols.take 1)):=AD (by rw [Htk.out];exact XN k c);generalize No k (cols.take 0)=tt at *;generalize GZ c=dc at *;go_wp2_with fail
     refine (hit.out _).mono ?_;rintro e W7 ⟨rfl,e7⟩;have e8:=e7.symm;subst e8;go_wp2_with fail
     exact ⟨⟨1,by rw [Hone.out],by simp,by omega,Ho6,K6.out⟩,by simp only [intOf];omega⟩
    ·have hi0I:(0:Int)<i:=(by omega);have hmore:=TF (k:=k) (l:=cols.take i) (by intro e;rw [e] at hszl;simp at hszl;omega) c;rw [P2.out,←Htk.out] at hmore;have Hmore:=AD hmore;clear hmore;generalize No k (cols.take i)=tt at *;generalize GZ c=dc at *;go_wp2_with fail
     refine (hit.out _).mono ?_;rintro e W7 ⟨rfl,e7⟩;have e8:=e7.symm;subst e8;go_wp2_with fail
     exact ⟨⟨i+1,by rw [Hmore.out],by simp,by omega,Ho6,K6.out⟩,by simp only [intOf];omega⟩
   ·have hiLI:¬ (i:Int)<L.length:=(by omega);have hc0:colOf z L i=0:=by unfold colOf;rw [Af (by omega)]
    rw [hc0] at Htk z9;have hit:=AD (fun (W:World)=>G0 0 (by omega) (by omega) W);rw [show Kn 0=GZ 0 from rfl] at hit;clear hc0 hc8;go_wp2_with fail
    refine (hcl.out _).mono ?_;rintro e W5 ⟨rfl,k5⟩;have Ho:=AD (AH ho.out k5);have K5:=AD (hkw.trans k5);have d1:=(HF.out.keeps K5.out).cell 1;simp at d1;clear k5 ho hkw;have kC:=AA.alloc [] W5 (.cells #[.int .i64 0] 3);have zC:=AX W5 (.cells #[.int .i64 0] 3);have hrowC:=AH Ho.out kC;have hone:∀ (j:Nat) (u:Value),[Value.int .i64 0][j]?=some u→(W5.alloc (.cells #[.int .i64 0] 3)).cell? ((⟨W5.heap.size,0,none⟩:Addr).add j)=some u:=by
     intro j u hu;rw [Addr.add_lit,Ag,(AK.new W5 #[.int .i64 0] 3).cell];match j with
     | 0=>simpa using hu
     | j+1=>simp at hu
    have hbase:WF.heap.size≤(W5.alloc (.cells #[.int .i64 0] 3)).heap.size:=by rw [zC];have:=K5.out.size;omega
    clear zC;go_wp2_with (at_builtin;refine wpList_append_own_at _ rfl _ _ 40 rfl WF.heap.size 3 i0 (.int .i64 0) 1 8 underlying40 hi0 hz0 hz1 hz2 rfl (by decide) _ i _ rfl hrowC ⟨W5.heap.size,0,none⟩ 1 1 [.int .i64 0] rfl (by simp) hone (by simp [Value.oneCell']) (by unfold maxLen;omega) (by omega) hbase ?_)
    intro v6 W6 hown6 hgrow6 hnil6 hat6;obtain ⟨g6,cp6,hv6⟩:=EL hown6;subst hv6;have k6:=grownBy_keeps' hgrow6 (Aa (.slice xa i xc)) (fun r e=>.inl (by simp [Aa,e]));have K6:=AD (K5.out.trans_new ((kC.mono (T':=Aa (.slice xa i xc)) (by simp)).trans k6) (fun j hj=>.inr (As hrowC j (by simpa [Aa] using hj)).1));have Ho6:Hid (W6.ownsRow WF.heap.size 3 1 (.slice (some ⟨g6,0,none⟩) (i+1) cp6) (i+1) (ints (Qq (cols.take (i+1))))):=AD (by rw [Htk.out];simpa [ints,Qq] using hown6);clear hown6 hgrow6 hnil6 hat6 k6 kC hrowC hone hbase Ho;rcases C1 i with hi0 | hi0
    ·subst hi0;have Hone:Hid (No k (cols.take 0)++GZ 0=No k (cols.take 1)):=AD (by rw [Htk.out];exact XN k 0);generalize No k (cols.take 0)=tt at *;generalize GZ 0=dc at *;go_wp2_with fail
     refine (hit.out _).mono ?_;rintro e W7 ⟨rfl,e7⟩;have e8:=e7.symm;subst e8;go_wp2_with fail
     exact ⟨⟨1,by rw [Hone.out],by simp,by omega,Ho6,K6.out⟩,by simp only [intOf];omega⟩
    ·have hi0I:(0:Int)<i:=(by omega);have hmore:=TF (k:=k) (l:=cols.take i) (by intro e;rw [e] at hszl;simp at hszl;omega) 0;rw [P2.out,←Htk.out] at hmore;have Hmore:=AD hmore;clear hmore;generalize No k (cols.take i)=tt at *;generalize GZ 0=dc at *;go_wp2_with fail
     refine (hit.out _).mono ?_;rintro e W7 ⟨rfl,e7⟩;have e8:=e7.symm;subst e8;go_wp2_with fail
     exact ⟨⟨i+1,by rw [Hmore.out],by simp,by omega,Ho6,K6.out⟩,by simp only [intOf];omega⟩
  ·have hiI:¬ (i:Int)<n:=(by omega);obtain rfl:n=i:=by omega
   have e1:cols.take n=cols:=by rw [←Hcl3.out];exact Bp
   rw [e1] at ho ⊢;go_wp2_with fail
   refine (hcl.out _).mono ?_;rintro e W5 ⟨rfl,k5⟩;have Ho:=AD (AH ho.out k5);have K5:=AD (hkw.trans k5);have hsz:(No k cols).size≤8:=by have:=OI k cols;have:=Hcl3.out;omega
   have hfe:=fV k cols;rw [P3.out] at hfe;have hl3:=Hcl3.out;have Hfe:=AD hfe;clear hfe hl3;generalize No k cols=tt at *;go_wp2_with fail
   have hb9:¬ 9223372036854775807<tt.size+2:=by omega
   go_region_law (refine A2 rfl 28 _ _ rfl _ func28 (by kernel_rfl) (by kernel_rfl) [] rfl ?_
                  refine (hrl.out _).mono ?_;rintro e W6 ⟨rfl,hcs6,k6⟩
                  have q6:W6.cell? ⟨W5.heap.size,k,none⟩=some (.string nm):=by rw [←Hnm.out];exact hcs6 k hk4)
   all_goals
    go_wp2_with fail
    have Hr:=AD (Fq (AH Ho.out ((AA.drew [] _).trans k6)) (show w.heap.size≤WF.heap.size by have:=ZF.out;omega));have Hk:=AD (HkF.out.trans ((K5.out.trans (AA.drew [] _)).trans k6));go_ret3
    rw [Hco.out];exact ⟨.slice xa n xc,by rw [←Hfe.out,Hnm.out];rfl,by rw [Hcl3.out];exact Hr.out,Hk.out⟩
end
end Go.Proofs.YtgjomknpjigkhaaGreatDoor
