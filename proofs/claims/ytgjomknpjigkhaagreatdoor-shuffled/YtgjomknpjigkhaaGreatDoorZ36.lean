import Derived.Test.YtgjomknpjigkhaaGreatDoorZ34
import Derived.Test.YtgjomknpjigkhaaGreatDoorZ35
import Derived.ProofKit
import Derived.OpenShut
import Derived.Deep.DeepHandedRow
import Derived.Lib.LaidTab
import Derived.WideKeyArgs
import Derived.Deep.Slices
import Derived.SizedLaws
namespace Go.Proofs.YtgjomknpjigkhaaGreatDoor
open Go.Proofs.Tryz
set_option maxRecDepth 100000
set_option maxHeartbeats 4000000
section
open Go.RowKit Go.Shelf
attribute [local go_sem] Oper.semAt_some
structure Sp (w:World) (g o:Nat) (r:C0):Prop where
 c0:w.cell? ⟨g,o,none⟩=some (.int .i64 r.head.rel)
 c1:w.cell? ⟨g,o+1,none⟩=some (.bool r.head.no)
 c2:w.cell? ⟨g,o+2,none⟩=some (.slice r.head.av r.head.L.length r.head.cap)
 c3:w.cell? ⟨g,o+3,none⟩=some (.slice r.ad r.body.length r.bc)
theorem Sp.keeps {w w':World} {g o:Nat} {r:C0} {T:List Nat} (h:Sp w g o r) (k:AA T w w') (hg:g∉T:=by simp):Sp w' g o r:=⟨Bb k h.c0 hg,Bb k h.c1 hg,Bb k h.c2 hg,Bb k h.c3 hg⟩
structure KP (w:World) (r:C0):Prop where
 head:KT w r.head
 body:Ll w r.ad r.body
theorem KP.keeps {w w':World} {r:C0} (h:KP w r) (k:AA [] w w'):KP w' r:=⟨h.head.keeps k,h.body.keeps k⟩
def IF (w:World) (av:Option Addr) (rs:List C0):Prop:=∀ (i:Nat) (r:C0),rs[i]?=some r→KP w r∧∃ g o,av=some ⟨g,o,none⟩∧Sp w g (o+i * 4) r
theorem IF.keeps {w w':World} {av:Option Addr} {rs:List C0} (h:IF w av rs) (k:AA [] w w'):IF w' av rs:=fun i r hr=>by
 obtain ⟨a,g,o,e,b⟩:=h i r hr;exact ⟨a.keeps k,g,o,e,b.keeps k⟩
structure nD (w:World) (g o:Nat) (f:Ch):Prop where
 c0:w.cell? ⟨g,o,none⟩=some (.int .i64 f.rel)
 c1:w.cell? ⟨g,o+1,none⟩=some (.slice f.av f.L.length f.cap)
structure KV (w:World) (f:Ch):Prop where
 lo:-9223372036854775808≤f.rel
 hi:f.rel≤9223372036854775807
 ints:IZ w f.av f.L
theorem KV.keeps {w w':World} {f:Ch} (h:KV w f) (k:AA [] w w'):KV w' f:=⟨h.lo,h.hi,h.ints.keeps k⟩
def IK (w:World) (av:Option Addr) (fs:List Ch):Prop:=∀ (i:Nat) (f:Ch),fs[i]?=some f→KV w f∧∃ g o,av=some ⟨g,o,none⟩∧nD w g (o+i * 2) f
theorem IK.keeps {w w':World} {av:Option Addr} {fs:List Ch} (h:IK w av fs) (k:AA [] w w'):IK w' av fs:=fun i f hf=>by
 obtain ⟨a,g,o,e,b⟩:=h i f hf;exact ⟨a.keeps k,g,o,e,Bb k b.c0,Bb k b.c1⟩
def Ro (z:Nat) (nm:List UInt8) (rs:List C0):ByteArray:=ba (Ae (GR z++rs.flatMap (EN z nm false)))
def Xd (z:Nat) (nm:List UInt8) (rs:List C0) (fs:List Ch):ByteArray:=ba (Ae (CK z nm false rs fs))
theorem Yt (z:Nat) (nm:List UInt8):ba (Ae (GR z))=Ro z nm []:=by unfold Ro;simp
theorem bK {z:Nat} {nm:List UInt8} {rs:List C0} {r:C0} (h:r.body≠[]):Ro z nm rs++ba (Ae (EH z nm r.head (r.body.take 4)))++ba [10]=Ro z nm (rs++[r]):=by
 have e:EN z nm false r=EH z nm r.head (r.body.take 4)++[.nl]:=by
  unfold EN;rw [if_neg (by simpa using h)];rfl
 unfold Ro;rw [DU,DU,Cr,A6,DS,BR,e,←Ab,Ay (GR z++_),Ay (EH z nm r.head (r.body.take 4)),Ab];rfl
theorem bM {z:Nat} {nm:List UInt8} {rs:List C0} {r:C0} (h:r.body=[]):Ro z nm rs=Ro z nm (rs++[r]):=by
 unfold Ro;rw [Cr,A6,DS,BR];unfold EN;rw [h];simp
theorem Yr (z:Nat) (nm:List UInt8) (rs:List C0):Ro z nm rs=Xd z nm rs []:=by unfold Ro Xd CK;simp
theorem bI (z:Nat) (nm:List UInt8) (rs:List C0) (fs:List Ch) (f:Ch):Xd z nm rs fs++ba (Ae (Ee (kOf f.rel) (DG z f.L (kOf f.rel))))++ba [10]=Xd z nm rs (fs++[f]):=by
 unfold Xd CK;rw [DU,DU,Cr,A6,DS,BR,←Ab,Ay (_++fs.flatMap _)];unfold H9;rw [Ay (Ee _ _),Ab];rfl
theorem Ob (z:Nat) (nm:List UInt8) (rs:List C0):(Ae (rs.flatMap (EN z nm false))).length≤100 * rs.length:=by
 induction rs with
 | nil=>exact AQ _
 | cons r rs ih=>
  rw [A6,Ay,AJ,AU];have:=Kc z nm false r;omega
theorem O9 (z:Nat) (fs:List Ch):(Ae (fs.flatMap (H9 z))).length≤20 * fs.length:=by
 induction fs with
 | nil=>exact AQ _
 | cons f fs ih=>
  rw [A6,Ay,AJ,AU];have:(Ae (H9 z f)).length≤20:=by
   unfold H9;rw [Ay,AJ];have h1:=Mx (kOf f.rel) z f.L;have h2:(Ae [.nl]).length=1:=rfl;omega
  omega
theorem bJ (z:Nat) (nm:List UInt8) (rs:List C0):(Ro z nm rs).size≤61+100 * rs.length:=by
 unfold Ro;rw [C9,Ay,AJ];have h1:=Ob z nm rs;have h2:(Ae (GR z)).length=61:=rfl;omega
theorem Tq (z:Nat) (nm:List UInt8) (rs:List C0) (fs:List Ch):(Xd z nm rs fs).size≤61+100 * rs.length+20 * fs.length:=by
 unfold Xd CK;rw [C9,Ay,Ay,AJ,AJ];have h1:=Ob z nm rs;have h3:=O9 z fs;have h2:(Ae (GR z)).length=61:=rfl;omega
theorem Nu (w:World) {ra:Option Addr} {rs:List C0} {rc:Nat} (hrs:IF w ra rs) (hrl:rs.length≤10000000000000) {fa:Option Addr} {fs:List Ch} {fc:Nat} (hfs:IK w fa fs) (hfl:fs.length≤10000000000000) {z:Nat} (hz:1≤z) (hz8:z≤8) {nm:List UInt8} (hn4:nm.length=4):Calls prog 20 #[.int .i64 (z:Int),.slice ra rs.length rc,.slice fa fs.length fc,.string (ba nm),.bool false] w fun e w'=>e=.returned (.string (ba (Ae (CK z nm false rs fs))))∧AA [] w w':=by
 have hru:=AD (fun (W:World) (k:AA [] w W) (r:C0) (hr:KP w r)=>Rb (bc:=r.bc) W (hr.head.keeps k) (hr.body.keeps k) hz hz8 hn4);have hhd:=AD (MF w (z:=z) (by omega));rw [Yt z nm] at hhd;have hft:=AD (fun (W:World) (k:AA [] w W) (f:Ch) (hf:KV w f)=>MH W (cap:=f.cap) hf.lo hf.hi (hf.ints.keeps k) hz hz8 (WV f.rel) (IU f.rel));rw [show ba (Ae (CK z nm false rs fs))=Xd z nm rs fs from rfl];have Hrs:=AD hrs;have Hfs:=AD hfs;clear hrs hfs hn4;have e1:({ data:=#[10] }:ByteArray)=ba [10]:=rfl;go_in
 simp only [e1];clear e1;obtain ⟨t1,hp1⟩:∃ t,ba [10]=t:=⟨_,rfl⟩;rw [hp1];have s1:t1.size=1:=by rw [←hp1];rfl
 have P1:=AD hp1;clear hp1;generalize ba nm=NM at *;obtain ⟨R,hR⟩:∃ R,rs.length=R:=⟨_,rfl⟩;obtain ⟨F,hF⟩:∃ F,fs.length=F:=⟨_,rfl⟩;have HR:=AD hR;have HF:=AD hF;rw [hR] at hrl ⊢;rw [hF] at hfl ⊢;clear hR hF;go_wp2_with fail
 refine hhd.out.mono ?_;rintro e W1 ⟨rfl,e1⟩;subst e1;go_wp2_with fail
 go_loopw [11,12] (fun y q wr=>∃ (i:Nat),y=.string (Ro z nm (rs.take i))∧q=.int .i64 i∧i≤R∧AA [] W1 wr) (fun _ q _=>((R:Int) - intOf q).toNat)
 case atStart=>exact ⟨0,rfl,rfl,by omega,AA.refl _ _⟩
 case round=>
  obtain ⟨i,rfl,rfl,hi,hkw⟩:=hrel;have hszl:(rs.take i).length=i:=by rw [BH,CA (by have:=HR.out;omega)]
  have hsz8:(Ro z nm (rs.take i)).size≤61+100 * i:=by have:=bJ z nm (rs.take i);omega
  by_cases hin:i<R
  ·have hiI:(i:Int)<R:=(by omega);obtain ⟨r,hr⟩:∃ r,rs[i]?=some r:=⟨_,AB (by have:=HR.out;omega)⟩;obtain ⟨rok,g,o,had,hra⟩:=Hrs.out i r hr;subst had;have hr2:=hra.keeps hkw;have p0:=hr2.c0;have p1:=hr2.c1;have p2:=hr2.c2;have p3:=hr2.c3;have kC:=AA.alloc [] wr (.cells #[.int .i64 r.head.rel,.bool r.head.no,.slice r.head.av r.head.L.length r.head.cap,.slice r.ad r.body.length r.bc] 62);have hal:=AD (fun (W:World) (k:AA [] W1 W)=>hru.out W k r rok);have htk:rs.take (i+1)=rs.take i++[r]:=by rw [An,hr];rfl
   have G1:Hid (r.body≠[]→Ro z nm (rs.take i)++ba (Ae (EH z nm r.head (r.body.take 4)))++t1=Ro z nm (rs.take (i+1))):=AD (fun e=>by rw [htk,←P1.out];exact bK e);have G2:Hid (r.body=[]→Ro z nm (rs.take i)=Ro z nm (rs.take (i+1))):=AD (fun e=>by rw [htk];exact bM e);have KC:=AD (hkw.trans kC);have hq:=Kc z nm false r;have hq2:r.body≠[]→(ba (Ae (EH z nm r.head (r.body.take 4)))).size≤100:=fun e=>by
    unfold EN at hq;rw [if_neg (by simpa using e),Ay,AJ] at hq;rw [C9];exact At (Nat.le_add_right _ _) hq
   have Hq2:=AD hq2;obtain ⟨bl,hbl⟩:∃ bl,r.body.length=bl:=⟨_,rfl⟩;have Hbl:=AD hbl;rw [hbl] at p3 hal KC;clear hra hr2 hr kC htk hszl hq hq2 rok hbl;by_cases hb:r.body=[]
   ·have hbl:bl=0:=by rw [←Hbl.out,hb];rfl
    subst hbl;have Hg:=AD (G2.out hb);clear G1 G2 hal hb;go_wp2_with fail
    exact ⟨⟨i+1,by rw [←Hg.out],by simp,by omega,KC.out⟩,by simp only [intOf];omega⟩
   ·have hbl:(0:Int)<(bl:Int):=by have:=List.length_pos_iff.2 hb;have:=Hbl.out;omega
    have Hg:=AD (G1.out hb);have hq:=Hq2.out hb;clear G1 G2 hb Hq2;generalize ba (Ae (EH z nm r.head (r.body.take 4)))=tk at *;generalize Ro z nm (rs.take i)=tt at *;go_wp2_with fail
    refine (hal.out _ KC.out).mono ?_;rintro e W5 ⟨rfl,k5⟩;go_wp2_with fail
    exact ⟨⟨i+1,by rw [←Hg.out],by simp,by omega,KC.out.trans k5⟩,by simp only [intOf];omega⟩
  ·have hiI:¬ (i:Int)<R:=(by omega);have hiR:i=R:=(by omega);subst hiR;have hgt:rs.take i=rs:=by rw [A9 (by have:=HR.out;omega)]
   rw [hgt];rw [hgt] at hsz8;clear hgt hszl hsz8;go_wp2_with fail
   rename World=>Wz;go_loopw [11,14] (fun y q wr=>∃ (j:Nat),y=.string (Xd z nm rs (fs.take j))∧q=.int .i64 j∧j≤F∧AA [] W1 wr) (fun _ q _=>((F:Int) - intOf q).toNat)
   case atStart=>exact ⟨0,by rw [Yr];rfl,rfl,by omega,hkw⟩
   case round=>
    obtain ⟨j,rfl,rfl,hj,hkr⟩:=hrel;have hszl:(fs.take j).length=j:=by rw [BH,CA (by have:=HF.out;omega)]
    have hsz8:(Xd z nm rs (fs.take j)).size≤61+100 * i+20 * j:=by have:=Tq z nm rs (fs.take j);rw [HR.out] at this;omega
    by_cases hjn:j<F
    ·have hjI:(j:Int)<F:=(by omega);obtain ⟨f,hf⟩:∃ f,fs[j]?=some f:=⟨_,AB (by have:=HF.out;omega)⟩;obtain ⟨fok,g,o,had,hfa⟩:=Hfs.out j f hf;subst had;have p0:=Bb hkr hfa.c0;have p1:=Bb hkr hfa.c1;have kC:=AA.alloc [] wr (.cells #[.int .i64 f.rel,.slice f.av f.L.length f.cap] 51);have hal:=AD (fun (W:World) (k:AA [] W1 W)=>hft.out W k f fok);have htk:fs.take (j+1)=fs.take j++[f]:=by rw [An,hf];rfl
     have Hg:Hid (Xd z nm rs (fs.take j)++ba (Ae (Ee (kOf f.rel) (DG z f.L (kOf f.rel))))++t1=Xd z nm rs (fs.take (j+1))):=AD (by rw [htk,←P1.out];exact bI z nm rs _ f);have hq:(ba (Ae (Ee (kOf f.rel) (DG z f.L (kOf f.rel))))).size≤12:=by rw [C9];exact Mx _ _ _
     have KC:=AD (hkr.trans kC);obtain ⟨bl,hbl⟩:∃ bl,f.L.length=bl:=⟨_,rfl⟩;rw [hbl] at p1 hal KC;clear hfa hf kC htk hszl fok hbl;go_wp2_with fail
     refine (hal.out _ KC.out).mono ?_;rintro e W5 ⟨v5,rfl,_,k5⟩;generalize ba (Ae (Ee (kOf f.rel) (DG z f.L (kOf f.rel))))=tk at *;generalize Xd z nm rs (fs.take j)=tt at *;go_wp2_with fail
     exact ⟨⟨j+1,by rw [←Hg.out],by simp,by omega,KC.out.trans k5⟩,by simp only [intOf];omega⟩
    ·have hjI:¬ (j:Int)<F:=(by omega);have hjF:j=F:=(by omega);subst hjF;have hgt:fs.take j=fs:=by rw [A9 (by have:=HF.out;omega)]
     rw [hgt];go_wp2_with fail
     go_ret
     exact ⟨rfl,hkr⟩
section
variable {w:World} {z eb bb:Nat} {B:SB} {S:ST} {gr cr:Nat} {rs:List BF} {tv mv:Value} {ka:Option Addr} {ks:List CluX} {kc:Nat} {m:Mean} {vals:List Nat} {Fs:Nat→List Nat→Prop} {rk:Nat→List Nat→Option Nat}
def VH (rs rs':List BF):Prop:=rs'.length=rs.length∧∀ (j:Nat) (q:BF),rs'[j]?=some q→∃ p,rs[j]?=some p∧q.n=p.n∧q.layer=p.layer∧q.sa=p.sa
theorem VH.refl (rs:List BF):VH rs rs:=⟨rfl,fun _ q h=>⟨q,h,rfl,rfl,rfl⟩⟩
theorem FA.like (h:FA w z bb B S gr cr rs tv mv ka ks kc m vals Fs rk) {w':World} {S':ST} {rs':List BF} {Fs':Nat→List Nat→Prop} {rk':Nat→List Nat→Option Nat} (hb:F9 w' bb B S' gr cr rs' tv mv (.slice ka ks.length kc)) (lk:VH rs rs') (ef:ftp B gr rs' = ftp B gr rs) (k:AA (ftp B gr rs) w w') (ha:En S' rs' Fs' rk'):FA w' z bb B S' gr cr rs' tv mv ka ks kc m vals Fs' rk':=by
 refine ⟨hb,ha,by rw [ef];exact h.kls.keeps k (fun j hj=>.inl (AC.2 (.inr hj))),h.ksc,by rw [ef];exact h.set.keeps k (fun j hj=>.inl (AP _ hj)),by rw [ef];exact h.low,by rw [lk.1];exact h.len,fun j q nm cols hq hc=>?_⟩;obtain ⟨p,hp,e1,e2,e3⟩:=lk.2 j q hq;obtain ⟨a,b,g,c,d,e,row⟩:=h.rels j p nm cols hp hc;exact ⟨by rw [e1];exact a,by rw [e2];exact b,g,by rw [e3];exact c,by rw [ef];exact d,e,row.keepsE k (fun hm=>d (AP _ hm))⟩
end
end
section
open Go.RowKit Go.Shelf
def mJ (l:Bu):List Value:=[.int .i64 l.rel,.bool l.no,.slice l.av l.L.length l.cap]
def lB (r:C0):List Value:=[.int .i64 r.head.rel,.bool r.head.no,.slice r.head.av r.head.L.length r.head.cap,.slice r.ad r.body.length r.bc]
end
section
open Go.RowKit Go.Shelf
attribute [local go_sem] Oper.semAt_some
theorem Qk {w:World} (s:ByteArray) (hs:s.size≤9223372036854775807) {f:I0} (hr:Df s=.error f):Calls prog 21 #[.string s] w fun e w'=>e=.returned (.pointer none)∧AA [] w w':=by
 have hld:=AD (Mo (w:=w) s hs (fun t m' h=>by rw [hr] at h;cases h));rw [hr] at hld;have hl2:Hid (Calls prog 16 #[.string s] w fun e w'=>(∃ F1 F2:Int,e=.returned (.tuple #[.pointer none,.agg #[.int .i64 F1,.int .i64 F2]]))∧AA [] w w'):=AD (hld.out.mono (fun e w' h=>⟨⟨_,_,h.1⟩,h.2⟩));clear hr hld;go_in
 go_wp2_with fail
 refine hl2.out.mono ?_;rintro e W1 ⟨⟨F1,F2,rfl⟩,k1⟩;have kF:=AA.alloc [] W1 (.cells #[.int .i64 0,.int .i64 0] 28);have hF:=AK.new W1 #[.int .i64 0,.int .i64 0] 28;have zF:=AX W1 (.cells #[.int .i64 0,.int .i64 0] 28);have kG:=AD (k1.trans (AA.alloc [] W1 (.cells #[.int .i64 F1,.int .i64 F2] 28)));clear kF hF zF k1;by_cases h0:F1=0
 ·subst h0;go_wp2_with fail
  go_ret
  exact ⟨rfl,kG.out⟩
 ·go_wp2_with fail
  go_ret
  exact ⟨rfl,kG.out⟩
theorem gU {W:World} {g n:Nat} {l:List Nat} (h:KQ W g n l) (hl:l.length=n):B8 W g (Qq l):=by
 obtain ⟨cs,h1,h2⟩:=h;refine ⟨cs,⟨_,h1⟩,fun i x hx=>?_⟩;unfold Qq at hx;rw [AW] at hx;cases hq:l[i]? with
 | none=>rw [hq] at hx;cases hx
 | some y=>
  rw [hq] at hx;simp at hx;subst hx;have hi:=(AL.1 hq).1;have:=h2.2 i (by omega);rw [this];show some (Value.int .i64 ((l.getD i 0:Nat):Int))=_;rw [Ad,hq];rfl
structure WasQ where
 k:Nat
 t:List Nat
 b:Nat
 r:Nat
section
variable {b0 z:Nat} {rk:Nat→List Nat→Option Nat} {WE:World} {lo hi n:Nat} {lv:Value} {xs:List (List Nat×Nat)} {W W':World} {x y o:Value} {nx ny no:Nat} {cx cy co:List Value} {ws:List WasQ}
end
end
section
open Go.ChangeShapes Go.WideShapes Go.ChangeAt Go.RowKit
theorem Sh:prog.cellsOf 3=1:=by kernel_rfl
theorem jQ:prog.cellsOf 4=1:=by kernel_rfl
theorem U1:prog.cellsOf 40=1:=by kernel_rfl
theorem U0:prog.cellsOf 51=2:=by kernel_rfl
theorem PM:prog.cellsOf 59=3:=by kernel_rfl
theorem eC:prog.cellsOf 60=1:=by kernel_rfl
theorem Uz:prog.cellsOf 62=4:=by kernel_rfl
theorem eH:prog.bytesOf 51=32:=by kernel_rfl
theorem eG:prog.bytesOf 59=40:=by kernel_rfl
theorem eE:prog.bytesOf 62=64:=by kernel_rfl
theorem GJ {x:Int} (h:(Lit.int .i64 x).wf=true):-9223372036854775808≤x∧x≤9223372036854775807:=by
 simp [Lit.wf,IntKind.min,IntKind.max,IntKind.signed,IntKind.bits] at h;omega
section
variable {H:Type} {enc:TypeId×Value→H} {w:World}
def Small (t:TypeId) (d:DataW H):Prop:=∀ n∈d.weights prog t,n≤reachBytes
theorem M8 {e:TypeId}:∀ {ds:List (DataW H)} {d:DataW H},d∈ds→∀ n∈d.weights prog e,n∈DataW.weightsAll prog e ds
 | x :: ds,d,hd,n,hn=>by
  simp only [DataW.weightsAll,AC];rcases AG.1 hd with rfl | hd
  ·exact .inl hn
  ·exact .inr (M8 hd n hn)
 | [],d,hd,_,_=>by cases hd
theorem choose_lt' {A:Type} [Inhabited A] {p:Nat→A→Prop} {len:Nat} (h:∀ i,i<len→∃ a,p i a):∃ L:Nat→A,∀ i,i<len→p i (L i):=
 ⟨fun i=>if hi:i<len then Classical.choose (h i hi) else default,fun i hi=>by
  simp only [dif_pos hi]
  exact Classical.choose_spec (h i hi)⟩
theorem OL {n:Nat} {v:Value} {x:DataW H×List MemPlace} (h:DataW.trod enc prog w 0 (fun _=>true) true n 40 [v]=some x):∃ av cap es,v=.slice av es.length cap∧IZ w av es:=by
 rcases open_ints underlying40 underlying3 Sh h with ⟨hc,_⟩ | ⟨a,len,cap,zs,hc,_,hl,_,hz,_,hcell,hwf⟩
 ·simp only [CH,and_true] at hc;exact ⟨none,0,[],hc,fun i x hx=>by simp at hx⟩
 ·simp only [CH,and_true] at hc;simp only [if_true] at hz;refine ⟨some a,cap,zs.take len,by rw [BH,CA (by omega)];exact hc,fun i x hx=>?_⟩;rw [List.getElem?_take] at hx;split at hx
  ·rename_i hi;have hm:=AE hx;have:=GJ (hwf x hm);refine ⟨this.1,this.2,a,rfl,?_⟩;rw [hcell i (by omega),Ad,hx];rfl
  ·cases hx
theorem RV {t e:TypeId} {c:Nat} (ht:prog.underlying t=some (.slice e)) (hc:prog.cellsOf e=c) (hc0:0<c) {A:Type} [Inhabited A] (V:A→List Value) (hV:∀ a,(V a).length=c) (Ok:A→Prop) (hel:∀ n cs x,Small e x.1→DataW.trod enc prog w 0 (fun _=>true) true n e cs=some x→∃ a,Ok a∧cs=V a) {n:Nat} {v:Value} {x:DataW H×List MemPlace} (h:DataW.trod enc prog w 0 (fun _=>true) true n t [v]=some x) (hs:Small t x.1):∃ ad cap,∃ l:List A,v=.slice ad l.length cap∧(∀ a∈l,Ok a)∧l.length * prog.bytesOf e≤reachBytes∧∀ (i:Nat) (a:A),l[i]?=some a→∃ g o,ad=some ⟨g,o,none⟩∧∀ f u,(V a)[f]?=some u→w.cell? ⟨g,o+i * c+f,none⟩=some u:=by
 rcases Deep.open_slice ht h with ⟨hv,_⟩ | ⟨a,len,cap,m,n',D,Pl,hv,_,hl,hm,hmm,hx,hcs⟩
 ·simp only [CH,and_true] at hv;exact ⟨none,0,[],hv,by simp,by simp,by simp⟩
 ·simp only [CH,and_true] at hv;subst hx;have hlm:len≤m:=by simp only [if_true] at hmm;omega
  have hw0:(((List.range len).map D).length+((List.range (m - len)).map fun j=>D (len+j)).length) * prog.bytesOf e≤reachBytes:=hs _ (by simp [DataW.weights,ht])
  have hwi:∀ i,i<len→Small e (D i):=fun i hi k hk=>hs k (by
   simp only [DataW.weights,ht]
   exact AP _ (AC.2 (.inl (M8 (AM.2 ⟨i,B9.2 hi,rfl⟩) k hk))))
  have hone:∀ i,i<len→∃ y:A,Ok y∧∀ f,f<c→w.cell? ((a.add (i * c)).add f)=(V y)[f]?:=fun i hi=>by
   obtain ⟨cs',h1,h2⟩:=hcs i (by omega);obtain ⟨y,hy,e1⟩:=hel n' cs' (D i,Pl i) (hwi i hi) h2;subst e1;rw [hc] at h1;exact ⟨y,hy,(World.cells?_some h1).2.2⟩
  obtain ⟨L,hL⟩:=choose_lt' hone;refine ⟨some a,cap,(List.range len).map L,by rw [AY,List.length_range];exact hv,fun y hy=>?_,?_,fun i y hy=>?_⟩
  ·obtain ⟨i,hi,rfl⟩:=AM.1 hy;exact (hL i (B9.1 hi)).1
  ·refine At (Nat.mul_le_mul_right _ ?_) hw0;simp
  ·rw [AW] at hy;have hi:i<len:=by
    rcases BP i len with q | q
    ·exact q
    ·rw [Af (by simpa using q)] at hy;cases hy
   rw [CS hi] at hy;simp at hy;subst hy;have h0:∃ u,(V (L i))[0]?=some u:=⟨_,AB (by rw [hV];exact hc0)⟩;have hsp:a.spot=none:=by
    obtain ⟨u,hu⟩:∃ u,(V (L 0))[0]?=some u:=⟨_,AB (by rw [hV];exact hc0)⟩;have h1:=(hL 0 (by omega)).2 0 hc0;rw [hu] at h1;simp only [D3,Addr.add,if_true] at h1;unfold World.cell? at h1;split at h1
    ·split at h1
     ·cases h1
     ·rename_i q;simpa using q
    ·cases h1
   obtain ⟨g,o,sp⟩:=a;dsimp only at hsp;subst hsp;refine ⟨g,o,rfl,fun f u hu=>?_⟩;have hf:f<c:=by have:=(AL.1 hu).1;rw [hV] at this;exact this
   have h1:=(hL i hi).2 f hf;rw [hu,Addr.add_lit,Addr.add_lit] at h1;exact h1
instance:Inhabited Bu:=⟨⟨0,false,none,[],0⟩⟩
instance:Inhabited C0:=⟨⟨default,none,[],0⟩⟩
instance:Inhabited Ch:=⟨⟨0,none,[],0⟩⟩
theorem UJ {n:Nat} {cs:List Value} {x:DataW H×List MemPlace} (h:DataW.trod enc prog w 0 (fun _=>true) true n 59 cs=some x):∃ l:Bu,KT w l∧cs=mJ l:=by
 obtain ⟨xs,k,hk,hxy,hlen,hxl,hf⟩:=DataW.trod_struct underlying59 h;rw [PM] at hlen;match xs,hxl,cs,hlen with
 | [y0,y1,y2],_,[v0,v1,v2],_=>
  have g0:=hf 0 _ rfl;have g1:=hf 1 _ rfl;have g2:=hf 2 _ rfl;simp [Sh,jQ,U1] at g0 g1 g2;obtain ⟨z0,e0,_,hw0⟩:=DataW.trod_int underlying3 g0;obtain ⟨b1,e1,_⟩:=DataW.trod_bool underlying4 g1;obtain ⟨av,cap,es,e2,hes⟩:=OL g2;simp only [CH,and_true] at e0 e1;subst e0 e1 e2;exact ⟨⟨z0,b1,av,es,cap⟩,⟨(GJ hw0).1,(GJ hw0).2,hes⟩,rfl⟩
theorem Y6 {n:Nat} {v:Value} {x:DataW H×List MemPlace} (h:DataW.trod enc prog w 0 (fun _=>true) true n 60 [v]=some x) (hs:Small 60 x.1):∃ ad cap,∃ ls:List Bu,v=.slice ad ls.length cap∧Ll w ad ls∧ls.length * 40≤140737488355328:=by
 obtain ⟨ad,cap,l,h1,h2,h3,h4⟩:=RV underlying60 PM (by decide) mJ (fun _=>rfl) (KT w) (fun n cs x _ hx=>UJ hx) h hs;refine ⟨ad,cap,l,h1,fun i a ha=>⟨h2 a (AE ha),?_⟩,?_⟩
 ·obtain ⟨g,o,e,hc⟩:=h4 i a ha;exact ⟨g,o,e,hc 0 _ rfl,hc 1 _ rfl,hc 2 _ rfl⟩
 ·rw [eG] at h3;exact At h3 (by decide)
theorem Yd {n:Nat} {cs:List Value} {x:DataW H×List MemPlace} (hs:Small 62 x.1) (h:DataW.trod enc prog w 0 (fun _=>true) true n 62 cs=some x):∃ r:C0,(KP w r∧r.body.length * 40≤140737488355328)∧cs=lB r:=by
 obtain ⟨xs,k,hk,hxy,hlen,hxl,hf⟩:=DataW.trod_struct underlying62 h;rw [Uz] at hlen;match xs,hxl,cs,hlen with
 | [y0,y1],_,[v0,v1,v2,v3],_=>
  have g0:=hf 0 _ rfl;have g1:=hf 1 _ rfl;simp [PM,eC] at g0 g1;obtain ⟨l,hl,e0⟩:=UJ g0
  have hs1:Small 60 y1.1:=fun m hm=>hs m (by
   rw [hxy];simp only [DataW.weights,underlying62]
   simp [DataW.weightsEach,hm])
  obtain ⟨ad,cap,ls,e1,h1,h2⟩:=Y6 g1 hs1;unfold mJ at e0;simp only [CH,and_true] at e0;obtain ⟨rfl,rfl,rfl⟩:=e0;subst e1;exact ⟨⟨l,ad,ls,cap⟩,⟨⟨hl,h1⟩,h2⟩,rfl⟩
theorem Vq {n:Nat} {v:Value} {x:DataW H×List MemPlace} (h:DataW.trod enc prog w 0 (fun _=>true) true n 42 [v]=some x) (hs:Small 42 x.1):∃ ad cap,∃ rs:List C0,v=.slice ad rs.length cap∧IF w ad rs∧rs.length * 64≤140737488355328∧∀ r∈rs,r.body.length * 40≤140737488355328:=by
 obtain ⟨ad,cap,l,h1,h2,h3,h4⟩:=RV underlying42 Uz (by decide) lB (fun _=>rfl) (fun r=>KP w r∧r.body.length * 40≤140737488355328) (fun n cs x hx hy=>Yd hx hy) h hs;refine ⟨ad,cap,l,h1,fun i a ha=>⟨(h2 a (AE ha)).1,?_⟩,?_,fun r hr=>(h2 r hr).2⟩
 ·obtain ⟨g,o,e,hc⟩:=h4 i a ha;exact ⟨g,o,e,hc 0 _ rfl,hc 1 _ rfl,hc 2 _ rfl,hc 3 _ rfl⟩
 ·rw [eE] at h3;exact At h3 (by decide)
def lK (f:Ch):List Value:=[.int .i64 f.rel,.slice f.av f.L.length f.cap]
theorem ZU {n:Nat} {cs:List Value} {x:DataW H×List MemPlace} (h:DataW.trod enc prog w 0 (fun _=>true) true n 51 cs=some x):∃ f:Ch,KV w f∧cs=lK f:=by
 obtain ⟨xs,k,hk,hxy,hlen,hxl,hf⟩:=DataW.trod_struct underlying51 h;rw [U0] at hlen;match xs,hxl,cs,hlen with
 | [y0,y1],_,[v0,v1],_=>
  have g0:=hf 0 _ rfl;have g1:=hf 1 _ rfl;simp [Sh,U1] at g0 g1;obtain ⟨z0,e0,_,hw0⟩:=DataW.trod_int underlying3 g0;obtain ⟨av,cap,es,e2,hes⟩:=OL g1;simp only [CH,and_true] at e0;subst e0 e2;exact ⟨⟨z0,av,es,cap⟩,⟨(GJ hw0).1,(GJ hw0).2,hes⟩,rfl⟩
theorem Wk {n:Nat} {v:Value} {x:DataW H×List MemPlace} (h:DataW.trod enc prog w 0 (fun _=>true) true n 43 [v]=some x) (hs:Small 43 x.1):∃ ad cap,∃ fs:List Ch,v=.slice ad fs.length cap∧IK w ad fs∧fs.length≤10000000000000:=by
 obtain ⟨ad,cap,l,h1,h2,h3,h4⟩:=RV underlying43 U0 (by decide) lK (fun _=>rfl) (KV w) (fun n cs x _ hx=>ZU hx) h hs;refine ⟨ad,cap,l,h1,fun i a ha=>⟨h2 a (AE ha),?_⟩,?_⟩
 ·obtain ⟨g,o,e,hc⟩:=h4 i a ha;exact ⟨g,o,e,hc 0 _ rfl,hc 1 _ rfl⟩
 ·rw [eH] at h3;have:reachBytes≤140737488355328:=by decide
  omega
end
end
end Go.Proofs.YtgjomknpjigkhaaGreatDoor
