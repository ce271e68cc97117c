import Derived.Test.YtgjomknpjigkhaaGreatDoorY06
namespace Go.Proofs.YtgjomknpjigkhaaGreatDoor
open Go.Proofs.Tryz
set_option maxRecDepth 100000
set_option maxHeartbeats 4000000
section
open Go.RowKit
theorem Bt.keepsE {w w':World} {b:Nat} {xs:List Int} {T:List Nat} (h:Bt w b xs) (k:AA T w w') (hb:b∉T:=by simp):Bt w' b xs:=h.of_heap (k.block b h.lt hb)
theorem Bt.setE {w:World} {b:Nat} {xs:List Int} (h:Bt w b xs) (i:Nat) (x:Int):Bt (w.setCell ⟨b,i,none⟩ (.int .i64 x)) b (xs.set i x):=by
 obtain ⟨cs,h1,h2⟩:=h;refine ⟨_,h1.setCell i _,fun j y hy=>?_⟩;rw [Av] at hy;by_cases e:i=j
 ·subst e;by_cases hi:i<xs.length
  ·simp only [if_true,hi,BH] at hy;subst hy;have:=h2 i _ (AB hi);have hs:i<cs.size:=(AP.1 this).1;simp [hs]
  ·simp [hi] at hy
 ·rw [if_neg e] at hy;have:=h2 j y hy;rw [Ab,if_neg e];exact this
theorem Bt.frozenE {w:World} {b:Nat} {xs:List Int} (h:Bt w b xs) (i:Nat):w.frozen? ⟨b,i,none⟩=false:=by
 obtain ⟨cs,h1,_⟩:=h;exact h1.frozen i
def P7 (ts:List BR) (R:List Nat→Prop) (σ:Int→Bool):Prop:=(∃ τ:Int→Bool,(∀ u:Nat,u<12→0≤Df ts (u / 3)→τ u=σ (3 * (Df ts (u / 3)).toNat+u % 3:Nat))∧R (EC τ 0 4))
def QW (ts:List BR) (t:BR):BR:=if t.isVar then ⟨true,Df ts t.num.toNat⟩ else t
def YN (ts:List BR) (R:List Nat→Prop) (j:Nat) (σ:Int→Bool):Prop:=P7 ts R σ∧∀ (p:Nat) (t:BR),p<j→ts[p]?=some t→Fd σ p=Jz σ (QW ts t)
theorem PF {ts:List BR} {R:List Nat→Prop} {j:Nat} {t t':BR} {σ:Int→Bool} (ht:ts[j]?=some t) (hc:QW ts t=t'):(YN ts R j σ∧Fd σ j=Jz σ t')↔YN ts R (j+1) σ:=by
 constructor
 ·rintro ⟨⟨h1,h2⟩,h3⟩;refine ⟨h1,fun p u hp hu=>?_⟩;by_cases e:p<j
  ·exact h2 p u e hu
  ·have:p=j:=(by omega);subst this;rw [ht] at hu;cases hu;rw [hc];exact h3
 ·exact fun h=>⟨⟨h.1,fun p u hp hu=>h.2 p u (by omega) hu⟩,by rw [←hc];exact h.2 j t (by omega) ht⟩
theorem jL (a b c d:Int) {v:Nat} (h:v<4):(#[Value.int .i64 a,.int .i64 b,.int .i64 c,.int .i64 d]:Array Value)[v]?=some (.int .i64 ([a,b,c,d].getD v 0)):=by
 match v with
 | 0=>rfl
 | 1=>rfl
 | 2=>rfl
 | 3=>rfl
 | v+4=>omega
theorem AA.drop {b:Nat} {T:List Nat} {w w':World} (k:AA (b :: T) w w') (hb:w.heap.size≤b):AA T w w':=
 ⟨k.os,k.tape,k.output,k.size,fun i hi hn=>k.block i hi (B3 (by omega) hn)⟩
theorem ZZ {ts:List BR} {R:List Nat→Prop} {G:Nat} {bys:List Int} {S:ST} {σ:Int→Bool} (hg:Jj (Df ts) 12 G) (hby:JD S bys (Sa (Df ts) 12)):(∃ τ:Int→Bool,(∀ v:Nat,v<12→G.testBit v=false→τ v=Z2 S bys σ v)∧R (EC τ 0 4))↔P7 ts R σ:=by
 have key:∀ v:Nat,v<12→Z2 S bys σ v=hG (Df ts) 12 v σ:=fun v hv=>hby.val (by simp [Sa,hv]) σ;have hb:∀ v:Nat,v<12→(G.testBit v=false↔0≤Df ts (v / 3)):=fun v hv=>by
  have:=hg.2 v hv;rw [←Bool.not_eq_true,this];omega
 unfold P7;constructor
 ·rintro ⟨τ,h1,h2⟩;refine ⟨τ,fun u hu h0=>?_,h2⟩;rw [h1 u hu ((hb u hu).2 h0),key u hu];unfold hG;rw [if_pos ⟨hu,h0⟩]
 ·rintro ⟨τ,h1,h2⟩;refine ⟨τ,fun u hu h0=>?_,h2⟩;have h0':=(hb u hu).1 h0;rw [h1 u hu h0',key u hu];unfold hG;rw [if_pos ⟨hu,h0'⟩]
theorem Ux {w:World} {B:SB} {S:ST} (hE:C3 w B S) {bb:Nat} (hb:Kn w bb B) {f:Int} (ρ:Int) {g c:Nat} (ts:List BR) (hg:g∉B.own) (hrow:IW w g ts) (htm:∀ t∈ts,Jd t) (h4:ts.length≤3) {R:List Nat→Prop} (hf:GL S f 4 R) (hl:S.next+33800000<Fq) :
  Calls prog 74 #[.pointer (some ⟨bb,0,none⟩),.int .i64 f,.agg #[.int .i64 ρ,.slice (some ⟨g,0,none⟩) ts.length c]] w (Jf B w S (fun σ=>P7 ts R σ∧∀ (p:Nat) (t:BR),ts[p]?=some t→Fd σ p=Jz σ (QW ts t)) 33700000):=by
 have hfc:=AD (fun (W:World) (k:AA [] w W)=>U8 (c:=c) ρ ts (hrow.keeps k) (by omega));have kA:=AA.alloc [] w (.cells #[.int .i64 ρ,.slice (some ⟨g,0,none⟩) ts.length c] 151);have hA:=AM.new w #[.int .i64 ρ,.slice (some ⟨g,0,none⟩) ts.length c] 151;have hsA:=AY w (.cells #[.int .i64 ρ,.slice (some ⟨g,0,none⟩) ts.length c] 151);have Hl:=AD hl;have Hfr:=AD (fun j (hj:w.heap.size≤j)=>hE.sat.fresh hj);have hidx:Hid (∀ v,v<4→[Df ts 0,Df ts 1,Df ts 2,Df ts 3].getD v 0=Df ts v):=fun v hv=>by
  match v with
  | 0=>rfl
  | 1=>rfl
  | 2=>rfl
  | 3=>rfl
  | v+4=>omega
 generalize Df ts 0=F0 at hfc hidx;generalize Df ts 1=F1 at hfc hidx;generalize Df ts 2=F2 at hfc hidx;generalize Df ts 3=F3 at hfc hidx;clear hl;go_in
 go_wp2_with fail
 generalize hWA:w.alloc (.cells #[.int .i64 ρ,.slice (some ⟨g,0,none⟩) ts.length c] 151)=WA at kA hA hsA ⊢;refine (hfc.out _ kA).mono ?_;rintro e W1 ⟨rfl,k1⟩;have kB:=AA.alloc [] W1 (.cells #[.int .i64 F0,.int .i64 F1,.int .i64 F2,.int .i64 F3] 216);have hB:=AM.new W1 #[.int .i64 F0,.int .i64 F1,.int .i64 F2,.int .i64 F3] 216;have hsB:=AY W1 (.cells #[.int .i64 F0,.int .i64 F1,.int .i64 F2,.int .i64 F3] 216);have hAB:=(hA.keeps k1).keeps kB;have kkB:=(kA.trans k1).trans kB;have hbB:=hb.keeps kkB;have hEB:=hE.keeps0 kkB;have hcB:=hbB.cell;have hlt1:w.heap.size<W1.heap.size:=by have:=k1.size;omega
 have hvs:=AD (UH hEB.sat);rw [hEB.n] at hvs;clear hfc hWA hcB;have hcB:=hbB.cell;generalize hWB:W1.alloc (.cells #[.int .i64 F0,.int .i64 F1,.int .i64 F2,.int .i64 F3] 216)=WB at *;have hmk:(Instr.makeSlice 40 (.int .i64 12) (.int .i64 12)).run prog WB=.ok (.slice (some ⟨WB.heap.size,0,none⟩) 12 12) (WB.alloc (.cells (madeCells #[.int .i64 0] 12) 3)):=Kr WB 12 (by omega);have hvs:Hid (Calls prog 143 #[.pointer (some ⟨B.b,0,none⟩)] WB fun e w'=>e=.returned (.int .i64 12)∧w' = WB):=hvs;go_wp2_with fail
 refine hvs.out.mono ?_;rintro e W2 ⟨rfl,rfl⟩;rename World=>WB;have kC:=AA.alloc [] WB (.cells (madeCells #[.int .i64 0] 12) 3);have hC:Bt (WB.alloc (.cells (madeCells #[.int .i64 0] 12) 3)) WB.heap.size (List.replicate 12 0):=by
  refine ⟨_,AM.new _ _ _,fun i x hx=>?_⟩;rw [BG] at hx;split at hx
  ·rename_i hi;cases hx;exact Ll _ _ hi
  ·cases hx
 have kk:=kkB.trans kC;have hBC:=hB.keeps kC;have hAC:=hAB.keeps kC;have hEC:=hE.keeps0 kk;have hsz:WB.heap.size=W1.heap.size+1:=hsB;clear hvs hA hAB kkB hbB hEB hcB hWB hB hsB kA kB k1 hsA;generalize WB.alloc (.cells (madeCells #[.int .i64 0] 12) 3)=W2 at *;rw [hsz] at hC hmk;have q0:=hBC.cell 0;have q1:=hBC.cell 1;have q2:=hBC.cell 2;have q3:=hBC.cell 3;simp at q0 q1 q2 q3;generalize hy:W1.heap.size=y at *;clear hsz kC;go_wp2_with fail
 clear hmk q0 q1 q2 q3;go_loopw [9,24] (fun x y' wr=>∃ (v G:Nat) (bys:List Int) (S1:ST),x=.int .i64 G∧y' = .int .i64 v∧v≤4∧C3 wr B S1∧AA ((y+1) :: B.own) W2 wr∧EH S S1∧S1.next≤S.next+3 * v∧Jj (Df ts) (3 * v) G∧JD S1 bys (Sa (Df ts) (3 * v))∧Bt wr (y+1) bys) (fun _ y' _=>((4:Int) - intOf y').toNat)
 case atStart=>exact ⟨0,0,_,S,rfl,rfl,by omega,hEC,AA.refl _ _,EH.refl S,by omega,⟨by decide,fun u hu=>by omega⟩,dQ S _,hC⟩
 case round=>
  obtain ⟨v,G,bys,S1,rfl,rfl,hv,hEr,hk,hx,hn,hG,hby,hrr⟩:=hrel;rename World=>wo;have Hn:=AD hn;clear hn;by_cases hv4:v<4
  ·have hvI:(v:Int)<4:=(by omega);have hix:=fun w=>Vx F0 F1 F2 F3 v hv4 w;rw [hidx.out v hv4] at hix;have hq3:∀ i,i<3→(3 * v+i) / 3=v∧(3 * v+i) % 3=i:=fun i hi=>by omega
   have Hq3:=AD hq3;have hneg:=dU ts v;have HneG:=AD hneg;clear hq3 hneg;generalize hFv:Df ts v=Fv at hix HneG;have HFv:=AD hFv;clear hFv;go_wp2_with fail
   go_loopw [9,28] (fun x y' wr=>∃ (i G:Nat) (bys:List Int) (S2:ST),x=.int .i64 G∧y' = .int .i64 i∧i≤3∧C3 wr B S2∧AA ((y+1) :: B.own) W2 wr∧EH S S2∧S2.next≤S.next+(3 * v+i)∧Hid (Jj (Df ts) (3 * v+i) G)∧JD S2 bys (Sa (Df ts) (3 * v+i))∧Bt wr (y+1) bys) (fun _ y' _=>((3:Int) - intOf y').toNat)
   case atStart=>exact ⟨0,G,bys,S1,rfl,rfl,by omega,hEr,hk,hx,by have:=Hn.out;omega,hG,hby,hrr⟩
   case round=>
    clear hEr hk hx hG hby hrr Hn;obtain ⟨i,G,bys,S2,rfl,rfl,hi,hEr,hk,hx,hn,hG,hby,hrr⟩:=hrel;have Hn:=AD hn;clear hn;by_cases hi3:i<3
    ·have hiI:(i:Int)<3:=(by omega);obtain ⟨hq1,hq2⟩:=Hq3.out i hi3;obtain ⟨q,hq⟩:∃ q,3 * v+i=q:=⟨_,rfl⟩;have hq12:q<12:=(by omega);have hvc:=AD (fun W=>Ei W v i (by omega) (by omega));rw [hq] at hq1 hq2 hG hby hvc;have Hq:=AD hq;have Hq1:=AD hq1;have Hq2:=AD hq2;have Hfq:Hid (Df ts (q / 3)=Fv):=by rw [hq1];exact HFv.out
     rcases HneG.out with hneg | ⟨p,hp⟩
     ·have hgn:=AD (hG.out.add (by rw [Hfq.out];exact hneg));have hgs:=dR (fc:=Df ts) (q:=q) (by rw [Hfq.out];exact hneg);have Hby:Hid (JD S2 bys (Sa (Df ts) (q+1))):=by rw [hgs];exact hby
      have hor:=SC hG.out.1 hq12;have hpw:=bQ hq12;clear hq hq1 hq2 hgs hby hG;generalize 2 ^ q=A at hor hpw hgn;generalize G+A=G2 at hor hgn;go_wp2_with fail
      refine (hvc.out _).mono ?_;rintro e W5 ⟨rfl,rfl⟩;go_wp2_with fail
      go_roundw
      ·exact ⟨i+1,G2,bys,S2,rfl,by simp,by omega,hEr,hk,hx,by have:=Hn.out;push_cast;omega,by have:=hgn.out;rw [←Hq.out] at this;exact this,by have:=Hby.out;rw [←Hq.out] at this;exact this,hrr⟩
      ·simp only [intOf];omega
     ·subst hp;obtain ⟨tp,htp,_⟩:=Si HFv.out;have hp3:p<3:=by have:=(AL.1 htp).1;omega
      have hdn:decide ((p:Int)<0)=false:=(by simp);have hgn:=AD (hG.out.skip (by rw [Hfq.out];omega));have hvp:=AD (fun W=>Ei W p i (by omega) (by omega));have hvar:=AD (fun (W:World) (k:AA [] wr W)=>Z5 (hEr.keeps0 k) (3 * p+i) (by omega) (by have:=Hl.out;have:=Hn.out;omega))
      have hbr:=hb.keeps ((kk.mono (by simp)).trans_new hk (fun j hj=>.inl hj)) (by
       intro hm;rcases AJ.1 hm with e | hm
       ·have:=hb.lt;omega
       ·exact hb.no hm)
      have g0:=hbr.cell;have hqI:(q:Int)<12:=(by omega);have hbl:bys.length=12:=by rw [hby.1];simp [Sa]
      obtain ⟨zz,hzz⟩:∃ z,bys[q]?=some z:=⟨bys[q]'(by omega),AB _⟩;have hgb:(y+1)∉B.own:=Hfr.out _ (by omega);have Hbl:=AD hbl;have Hzz:=AD hzz;have Hpi:=AD (rfl:3 * p+i=3 * p+i);clear hq hq1 hq2 hG htp hbl hzz;generalize hr:3 * p+i=rr at hvp hvar Hpi;have Hr:=AD hr;clear hr;have hbny:bb∉[y+1]:=by have:=hb.lt;simp;omega
      have h7:=AD (fun (W7:World) (k3:AA B.own wr.drew W7)=>AU ((hbr.keeps (AA.drew [] wr)).own k3).cell (AU (((hrr.keepsE (AA.drew [] wr)).keepsE k3 hgb).cell Hzz.out) (AU (((hrr.keepsE (AA.drew [] wr)).keepsE k3 hgb).frozenE q) (fun v=>(((hbr.keeps (AA.drew [] wr)).own k3).keeps (AA.setCell W7 ⟨y+1,q,none⟩ v) hbny).cell))));go_wp2_with fail
      go_region_held3 (fun w'=>w'.cell? ⟨bb,4,none⟩=some (.pointer (some ⟨B.b,0,none⟩))) (first | exact g0 | exact a0 | exact a3 _)
       (first
       | (go_at_call_of 144 (Value.int IntKind.i64 (v:Int))
          refine (hvc.out _).mono ?_
          rintro e W5 ⟨rfl,rfl⟩)
       | (go_at_call_of 144 (Value.int IntKind.i64 (p:Int))
          refine (hvp.out _).mono ?_
          rintro e W6 ⟨rfl,rfl⟩)
       | (go_at_call 145
          refine (hvar.out _ (AA.drew [] _)).mono ?_;rintro e W7 ⟨r1,S3,rfl,hE3,k3,x3,n3,hr3⟩
          obtain ⟨a0,a1,a2,a3⟩:=h7.out W7 k3))
      all_goals
       have hrw:=(hrr.keepsE (AA.drew [] wr)).keepsE k3 hgb;have Hst:=AD (hrw.setE q r1);have kS:=AA.setCell W7 ⟨y+1,q,none⟩ (.int .i64 r1);have hES:=hE3.keeps kS (fun j hj hm=>hgb (by simp only [AG] at hm;rw [←hm];exact hj));clear hrw;go_wp2_with fail
       go_roundw
       ·refine ⟨i+1,G,bys.set q r1,S3,rfl,by simp,by omega,hES,((hk.trans ((AA.drew [] wr).mono (by simp))).trans (k3.mono (fun j hj=>AO _ hj))).trans (kS.mono (by simp)),hx.trans x3,by have:=Hn.out;push_cast;omega,by have:=hgn.out;rw [←Hq.out] at this;exact this,?_,Hst.out⟩;have:=(hby.ext x3 hEr.wf hE3.wf).put hq12 (by rw [Hfq.out];omega) (by rw [Hfq.out,BO,Hq2.out,Hr.out];exact hr3);rw [←Hq.out] at this ⊢;exact this
       ·simp only [intOf];omega
    ·have hiI:¬ (i:Int)<3:=(by omega);have e:i=3:=(by omega);subst e;go_wp2_with fail
     go_roundw
     ·exact ⟨v+1,G,bys,S2,rfl,by simp,by omega,hEr,hk,hx,by have:=Hn.out;push_cast;omega,hG.out,hby,hrr⟩
     ·simp only [intOf];omega
  ·have hvI:¬ (v:Int)<4:=(by omega);have e:v=4:=(by omega);subst e;have hG12:G<4096:=hG.1;have hgb:(y+1)∉B.own:=Hfr.out _ (by omega);have kw:AA ((y+1) :: B.own) w wo:=(kk.mono (by simp)).trans hk;have hyb:bb∉(y+1) :: B.own:=by
    intro hm;rcases AJ.1 hm with e | hm
    ·have:=hb.lt;omega
    ·exact hb.no hm
   have hbr:=hb.keeps kw hyb;have g0:=hbr.cell;have hbl:bys.length=12:=by rw [hby.1];simp [Sa]
   have hfr:Fg S1 f (fun σ=>R (EC σ 0 4)):=Fg.ext ⟨hf.1,hf.2⟩ hx hE.wf hEr.wf;have h1:=AD (fun (W:World) (k:AA [] wo W)=>eD (hEr.keeps0 k) (X:=G) hfr hG12 (by have:=Hl.out;have:=Hn.out;omega));have h2:=AD (fun (W:World) (S3:ST) (r1:Int) (hE3:C3 W B S3) (k3:AA B.own wo.drew W) (x3:EH S1 S3) (n3:S3.next≤S1.next+16773120) (ok3:S3.ok r1)=>Xg (ct:=12) hE3 (k:=12) ok3 (fun u u0 u1=>by rw [hE3.n] at u1;omega) ((hrr.keepsE (AA.drew [] wo)).keepsE k3 hgb) hgb (by omega) (fun b hb'=>x3.ok (hby.ok b hb')) (by have:=Hl.out;have:=Hn.out;omega));rw [hbl] at h2;have h7:=AD (fun (W7:World) (k3:AA B.own wo.drew W7)=>((hbr.keeps (AA.drew [] wo)).own k3).cell);have HG:=AD hG;have Hby:=AD hby;have Hbl:=AD hbl;clear hG hby hbl hG12;go_wp2_with fail
   go_region_held3 (fun w'=>w'.cell? ⟨bb,4,none⟩=some (.pointer (some ⟨B.b,0,none⟩))) (first | exact g0 | exact a0 | exact a1)
    (first
    | (go_at_call 147
       refine (h1.out _ (AA.drew [] _)).mono ?_;rintro e W5 ⟨r1,S3,rfl,hE3,k3,x3,n3,hr3⟩
       have a0:=h7.out W5 k3)
    | (go_at_call 146
       refine (h2.out _ S3 r1 hE3 k3 x3 n3 hr3.1).mono ?_;rintro e W6 ⟨r2,S4,rfl,hE4,k4,x4,n4,hr4⟩
       have a1:=h7.out W6 (k3.trans k4)))
   all_goals
    have kW:AA ((y+1) :: B.own) W2 W6:=(hk.trans ((AA.drew [] wo).mono (by simp))).trans ((k3.trans k4).mono (fun j hj=>AO _ hj));have hA6:=hAC.keeps kW (B3 (by omega) (Hfr.out _ (AS _)));have hB6:=hBC.keeps kW (B3 (by omega) (Hfr.out _ (by omega)));have kw6:AA ((y+1) :: B.own) w W6:=(kk.mono (by simp)).trans kW;have hr6:=hrow.keeps kw6 (B3 (by have:=hrow.1;omega) hg);have hb6:=hb.keeps kw6 hyb;have hX:=AD (hx.trans (x3.trans x4));have hN:=AD (show S4.next≤S.next+33542157 by have:=Hn.out;omega)
    have hR4:Fg S4 r2 (P7 ts R):=⟨hr4.1,fun σ=>by
     rw [hr4.2];show S3.den r1 (Z2 S3 bys σ)=true↔P7 ts R σ;rw [hr3.2]
     exact ZZ HG.out (Hby.out.ext x3 hEr.wf hE3.wf)⟩
    have s1:=hA6.cell 1;simp at s1;clear h1 h2 h7 HG Hby Hbl hr3 hr4 hfr hx x3 x4 Hn n3 n4 hbr g0 a0 a1 hrr hC hEC hAC hBC hk k3 k4 hEr hE3;go_wp2_with fail
    go_loopw [1,70] (fun x y' wr=>∃ (j:Nat) (r:Int) (S5:ST),x=.int .i64 r∧y' = .int .i64 j∧j≤ts.length∧C3 wr B S5∧AA B.own W6 wr∧EH S4 S5∧S5.next≤S4.next+40956 * j∧Fg S5 r (YN ts R j)) (fun _ y' _=>((ts.length:Int) - intOf y').toNat)
    case atStart=>exact ⟨0,r2,S4,rfl,rfl,by omega,hE4,AA.refl _ _,EH.refl S4,by omega,hR4.1,fun σ=>by rw [hR4.2];simp [YN]⟩
    case round=>
     obtain ⟨j,r,S5,rfl,rfl,hj,hEr,hkj,hxj,hn5,hrj⟩:=hrel;have Hn5:=AD hn5;clear hn5 s1;have hbr:=hb6.own hkj;by_cases hjl:j<ts.length
     ·have hjI:(j:Int)<ts.length:=(by omega);have hrr:=hr6.keeps hkj hg;have hBr:=hB6.keeps hkj (Hfr.out _ (by omega));obtain ⟨t,ht⟩:∃ t,ts[j]?=some t:=⟨_,AB hjl⟩;obtain ⟨g1,g2⟩:=hrr.2 j t ht;have hto:=htm t (AF ht);have Htj:=AD ht;have htm':=AF ht;obtain ⟨b,m⟩:=t;obtain ⟨v,rfl⟩:∃ v:Nat,m=v:=Br hto.1;simp only at g1 g2;cases b with
      | true=>
       have hv4:v<4:=by have:=hto.2.2 rfl;simp only at this;omega
       have hvI:(v:Int)<4:=(by omega);obtain ⟨p,hp⟩:=Sh htm' rfl rfl;obtain ⟨tp,htp,_⟩:=Si hp;have hp3:p<3:=by have:=(AL.1 htp).1;omega
       have hcv:wr.cell? ⟨y,v,none⟩=some (.int .i64 (Df ts v)):=by
        rw [hBr.cell,←hidx.out v hv4];exact jL F0 F1 F2 F3 hv4
       have hcv2:(wr.alloc (.cells #[.bool true,.int .i64 (v:Int)] 220)).cell? ⟨y,v,none⟩=some (.int .i64 (Df ts v)):=by rw [FL (AA.alloc [] wr _) hBr.lt (by simp)];exact hcv
       have Hct:Hid (QW ts ⟨true,(v:Int)⟩=⟨true,Df ts v⟩):=(by simp [QW,Hid]);have Hok:Hid (Jd ⟨true,Df ts v⟩):=by rw [hp];exact ⟨by simp only;omega,by simp only;omega,fun _=>by simp only;omega⟩
       clear hp htp ht hto htm';generalize hFv:Df ts v=Fv at hcv hcv2 Hct Hok;clear hFv;have kT:=AA.alloc [] wr (.cells #[.bool true,.int .i64 Fv] 220);have hT:=AM.new wr #[.bool true,.int .i64 Fv] 220;have hzo:wr.heap.size∉B.own:=hEr.sat.fresh (AS _);have hbT:=hbr.keeps kT;have heq:=AD (Ke (hEr.keeps0 (kT.trans (AA.drew [] _))) (hbT.keeps (AA.drew [] _)) j (by omega) ⟨true,Fv⟩ Hok.out (by have:=Hl.out;have:=hN.out;have:=Hn5.out;omega));simp only [nW] at heq;generalize hWT:wr.alloc (.cells #[.bool true,.int .i64 Fv] 220)=WT at *;have e0:=hbT.cell;have e1:=hT.cell 0;have e2:=hT.cell 1;simp at e1 e2;go_wp2_with fail
       have h7:=AD (fun (W7:World) (k:AA B.own WT.drew W7)=>AU ((hbT.keeps (AA.drew [] _)).own k).cell (AU (((hT.keeps (AA.drew [] _)).keeps k hzo).cell 0) (((hT.keeps (AA.drew [] _)).keeps k hzo).cell 1)))
       go_region_held3 (fun w'=>w'.cell? ⟨bb,4,none⟩=some (.pointer (some ⟨B.b,0,none⟩))∧w'.cell? ⟨wr.heap.size,0,none⟩=some (.bool true)∧w'.cell? ⟨wr.heap.size,1,none⟩=some (.int .i64 Fv)) (first | exact ⟨e0,e1,e2⟩ | exact a7 | exact a8)
        (first
        | (go_at_call 149
           refine heq.out.mono ?_;rintro e W7 ⟨r7,S7,rfl,hE7,k7,x7,n7,hr7⟩
           have a7:=h7.out W7 k7)
        | (go_at_call 148
           refine (YF hE7 (hrj.ext x7 hEr.wf hE7.wf) hr7 (by have:=Hl.out;have:=hN.out;have:=Hn5.out;omega)).mono ?_;rintro e W8 ⟨r8,S8,rfl,hE8,k8,x8,n8,hr8⟩
           have a8:=h7.out W8 (k7.trans k8)))
       all_goals
        go_wp2_with fail
        go_roundw
        ·refine ⟨j+1,r8,S8,rfl,by simp,by omega,hE8,(hkj.trans (((kT.trans (AA.drew [] _)).mono (by simp)).trans k7)).trans k8,hxj.trans (x7.trans x8),by have:=Hn5.out;push_cast;omega,hr8.1,fun σ=>?_⟩;rw [hr8.2];exact PF Htj.out Hct.out
        ·simp only [intOf];omega
      | false=>
       have Hct:Hid (QW ts ⟨false,(v:Int)⟩=⟨false,(v:Int)⟩):=(by simp [QW,Hid]);have Hok:Hid (Jd ⟨false,(v:Int)⟩):=hto;clear ht hto htm';have kT:=AA.alloc [] wr (.cells #[.bool false,.int .i64 (v:Int)] 220);have hT:=AM.new wr #[.bool false,.int .i64 (v:Int)] 220;have hzo:wr.heap.size∉B.own:=hEr.sat.fresh (AS _);have hbT:=hbr.keeps kT;have heq:=AD (Ke (hEr.keeps0 (kT.trans (AA.drew [] _))) (hbT.keeps (AA.drew [] _)) j (by omega) ⟨false,(v:Int)⟩ Hok.out (by have:=Hl.out;have:=hN.out;have:=Hn5.out;omega));simp only [nW] at heq;generalize hWT:wr.alloc (.cells #[.bool false,.int .i64 (v:Int)] 220)=WT at *;have e0:=hbT.cell;have e1:=hT.cell 0;have e2:=hT.cell 1;simp at e1 e2;go_wp2_with fail
       have h7:=AD (fun (W7:World) (k:AA B.own WT.drew W7)=>AU ((hbT.keeps (AA.drew [] _)).own k).cell (AU (((hT.keeps (AA.drew [] _)).keeps k hzo).cell 0) (((hT.keeps (AA.drew [] _)).keeps k hzo).cell 1)))
       go_region_held3 (fun w'=>w'.cell? ⟨bb,4,none⟩=some (.pointer (some ⟨B.b,0,none⟩))∧w'.cell? ⟨wr.heap.size,0,none⟩=some (.bool false)∧w'.cell? ⟨wr.heap.size,1,none⟩=some (.int .i64 (v:Int))) (first | exact ⟨e0,e1,e2⟩ | exact a7 | exact a8)
        (first
        | (go_at_call 149
           refine heq.out.mono ?_;rintro e W7 ⟨r7,S7,rfl,hE7,k7,x7,n7,hr7⟩
           have a7:=h7.out W7 k7)
        | (go_at_call 148
           refine (YF hE7 (hrj.ext x7 hEr.wf hE7.wf) hr7 (by have:=Hl.out;have:=hN.out;have:=Hn5.out;omega)).mono ?_;rintro e W8 ⟨r8,S8,rfl,hE8,k8,x8,n8,hr8⟩
           have a8:=h7.out W8 (k7.trans k8)))
       all_goals
        go_wp2_with fail
        go_roundw
        ·refine ⟨j+1,r8,S8,rfl,by simp,by omega,hE8,(hkj.trans (((kT.trans (AA.drew [] _)).mono (by simp)).trans k7)).trans k8,hxj.trans (x7.trans x8),by have:=Hn5.out;push_cast;omega,hr8.1,fun σ=>?_⟩;rw [hr8.2];exact PF Htj.out Hct.out
        ·simp only [intOf];omega
     ·have hjI:¬ (j:Int)<ts.length:=(by omega);have e:j=ts.length:=(by omega);subst e;go_wp2_with fail
      go_ret
      refine ⟨r,S5,rfl,hEr,?_,hX.out.trans hxj,by have:=hN.out;have:=Hn5.out;omega,hrj.1,fun σ=>?_⟩
      ·exact (kw6.trans (hkj.mono (fun q hq=>AO _ hq))).drop (by omega)
      ·rw [hrj.2];exact ⟨fun h=>⟨h.1,fun p t hp=>h.2 p t (AL.1 hp).1 hp⟩,fun h=>⟨h.1,fun p t _ hp=>h.2 p t hp⟩⟩
def Jx (ρ:List Nat) (t:BR):Nat:=if t.isVar then ρ.getD t.num.toNat 0 else t.num.toNat
theorem Jf.iff {B:SB} {w:World} {S:ST} {F G:(Int→Bool)→Prop} {c:Int} {e:Ending} {w':World} (h:Jf B w S F c e w') (hi:∀ σ,F σ↔G σ):Jf B w S G c e w':=by
 obtain ⟨r,S',h1,h2,h3,h4,h5,h6,h7⟩:=h;exact ⟨r,S',h1,h2,h3,h4,h5,h6,fun σ=>by rw [h7,hi]⟩
theorem iO (σ:Int→Bool) (p:Nat):Fd σ p<8:=by
 unfold Fd;cases σ (3 * p:Nat) <;> cases σ (3 * p+1:Nat) <;> cases σ (3 * p+2:Nat) <;> decide
theorem OS (σ:Int→Bool):∀ (c p:Nat),(EC σ p c).length=c
 | 0,_=>rfl
 | c+1,p=>by simp [EC,OS σ c (p+1)]
theorem Ko (σ:Int→Bool):∀ (c p j:Nat),j<c→(EC σ p c)[j]?=some (Fd σ (p+j))
 | 0,_,_,h=>by omega
 | c+1,p,0,_=>rfl
 | c+1,p,j+1,h=>by simp only [EC,List.getElem?_cons_succ];rw [Ko σ c (p+1) j (by omega)];congr 2;omega
theorem OT (σ:Int→Bool) {c j:Nat} (h:j<c):(EC σ 0 c).getD j 0=Fd σ j:=by
 rw [Af,Ko σ c 0 j h,Ad];rfl
theorem L5 (σ:Int→Bool):∀ (c p:Nat),EC σ p c∈C7 c
 | 0,_=>by simp [EC,C7]
 | c+1,p=>by
  simp only [EC,C7,A2,CH,AR];exact ⟨_,iO σ p,_,L5 σ c (p+1),rfl⟩
theorem VS {c:Nat} {l:List Nat} (h:l∈C7 c):∃ σ,EC σ 0 c=l:=by
 have:=RN c 0;rw [←this] at h;obtain ⟨y,_,rfl⟩:=AR.1 h;exact ⟨_,rfl⟩
theorem FH {c:Nat} {l:List Nat}:l∈C7 c↔l.length=c∧∀ x∈l,x<8:=by
 induction c generalizing l with
 | zero=>simp only [C7,AG];constructor
         ·rintro rfl;simp
         ·rintro ⟨h,_⟩;exact List.eq_nil_of_length_eq_zero h
 | succ c ih=>
  simp only [C7,A2,CH,AR];constructor
  ·rintro ⟨d,hd,m,hm,rfl⟩;obtain ⟨h1,h2⟩:=ih.1 hm;refine ⟨by simp [h1],fun x hx=>?_⟩;rcases AJ.1 hx with rfl | hx
   ·exact hd
   ·exact h2 x hx
  ·rintro ⟨h1,h2⟩;cases l with
   | nil=>simp at h1
   | cons d m=>exact ⟨d,h2 d (by simp),m,ih.2 ⟨by simpa using h1,fun x hx=>h2 x (AO _ hx)⟩,rfl⟩
theorem gH (σ:Int→Bool) {t:BR} (ht:Jd t):Jz σ t=Jx (EC σ 0 4) t:=by
 unfold Jz Jx;obtain ⟨h0,_,h4⟩:=ht;cases hv:t.isVar with
 | true=>simp only [if_true];rw [OT σ (by have:=h4 hv;omega)]
 | false=>rfl
theorem aA (σ:Int→Bool) {ts:List BR} (ht:∀ t∈ts,Jd t):ts.map (Jz σ)=ts.map (Jx (EC σ 0 4)):=CV fun t h=>gH σ (ht t h)
theorem ZY {ts:List BR} {R:List Nat→Prop} (htm:∀ t∈ts,Jd t) (σ:Int→Bool):(P7 ts R σ∧∀ (p:Nat) (t:BR),ts[p]?=some t→Fd σ p=Jz σ (QW ts t))↔∃ ρ,ρ∈C7 4∧R ρ∧ts.map (Jx ρ)=EC σ 0 ts.length:=by
 have hnum:∀ (τ:Int→Bool) (v:Nat),v<4→(EC τ 0 4).getD v 0=Fd τ v:=fun τ v hv=>OT τ hv;constructor
 ·rintro ⟨⟨τ,h1,h2⟩,h3⟩;refine ⟨EC τ 0 4,L5 τ 4 0,h2,?_⟩;apply Bd;intro p;by_cases hp:p<ts.length
  ·obtain ⟨t,ht⟩:∃ t,ts[p]?=some t:=⟨_,AB hp⟩;have hm:=AF ht;have hto:=htm t hm;rw [AX,ht,Ko σ _ 0 p hp,Ad,A4,h3 p t ht];congr 1
   unfold Jx QW Jz;cases hv:t.isVar with
   | false=>simp [hv]
   | true=>
    simp only [if_true];have hv4:=hto.2.2 hv;obtain ⟨v,hvn⟩:=Br hto.1;rw [hvn,BO];obtain ⟨q,hq⟩:=Sh hm hv hvn;rw [hq,BO,hnum τ v (by omega)];unfold Fd;have key:∀ i,i<3→τ (3 * v+i:Nat)=σ (3 * q+i:Nat):=fun i hi=>by
     have e1:(3 * v+i) / 3=v:=(by omega);have e2:(3 * v+i) % 3=i:=(by omega);have:=h1 (3 * v+i) (by omega) (by rw [e1,hq];omega);rw [e1,e2,hq,BO] at this;exact this
    have k0:=key 0 (by omega);simp only [CB] at k0;rw [k0,key 1 (by omega),key 2 (by omega)]
  ·rw [Ac (by simp;omega),Ac (by rw [OS];omega)]
 ·rintro ⟨ρ,h1,h2,h3⟩;obtain ⟨τ,rfl⟩:=VS h1;have col:∀ (p:Nat) (t:BR),ts[p]?=some t→Fd σ p=Jx (EC τ 0 4) t:=fun p t ht=>by
   have hp:=(AL.1 ht).1;have:=congrArg (·[p]?) h3;simp only [AX,ht,A4] at this;rw [Ko σ _ 0 p hp,Ad] at this;exact (As this).symm
  have colv:∀ (v q:Nat),v<4→Df ts v=q→Fd σ q=Fd τ v:=fun v q hv hq=>by
   obtain ⟨t,ht,htv,htn⟩:=Si hq;rw [col q t ht];unfold Jx;rw [if_pos htv,htn,BO,hnum τ v hv]
  refine ⟨⟨τ,fun u hu h0=>?_,h2⟩,fun p t ht=>?_⟩
  ·obtain ⟨q,hq⟩:=Br h0;have:=colv (u / 3) q (by omega) hq;unfold Fd at this;obtain ⟨b0,b1,b2⟩:=cC.1 this;rw [hq,BO];have e:u=3 * (u / 3)+u % 3:=(by omega);have h3:u % 3<3:=(by omega);generalize u / 3=v at *;generalize u % 3=i at *;subst e;match i with
   | 0=>exact b0.symm
   | 1=>exact b1.symm
   | 2=>exact b2.symm
   | i+3=>omega
  ·rw [col p t ht];have hm:=AF ht;have hto:=htm t hm;unfold Jx QW Jz;cases hv:t.isVar with
   | false=>simp [hv]
   | true=>
    simp only [if_true];have hv4:=hto.2.2 hv;obtain ⟨v,hvn⟩:=Br hto.1;rw [hvn,BO];obtain ⟨q,hq⟩:=Sh hm hv hvn;rw [hq,BO,hnum τ v (by omega),colv v q (by omega) hq]
section
variable {w:World} {B:SB} {S:ST} {bb g c:Nat} {f ρ:Int} {ts:List BR} {R:List Nat→Prop}
theorem Xa (hE:C3 w B S) (hb:Kn w bb B) (hg:g∉B.own) (hrow:IW w g ts) (htm:∀ t∈ts,Jd t) (h1:0<ts.length) (h4:ts.length≤4) (hf:GL S f ts.length R) (hl:S.next+16769100<Fq) :
  Calls prog 262 #[.pointer (some ⟨bb,0,none⟩),.int .i64 f,.agg #[.int .i64 ρ,.slice (some ⟨g,0,none⟩) ts.length c]] w (Jf B w S (fun σ=>R (ts.map (Jx (EC σ 0 4)))) 16769037):=
 (TZ hE hb ρ ts hg hrow htm h1 h4 hf hl).mono fun _ _ h=>h.iff fun σ=>by rw [aA σ htm]
theorem X4 (hE:C3 w B S) (hb:Kn w bb B) (hg:g∉B.own) (hrow:IW w g ts) (htm:∀ t∈ts,Jd t) (h4:ts.length≤3) (hf:GL S f 4 R) (hl:S.next+33800000<Fq) :
  Calls prog 74 #[.pointer (some ⟨bb,0,none⟩),.int .i64 f,.agg #[.int .i64 ρ,.slice (some ⟨g,0,none⟩) ts.length c]] w (Jf B w S (fun σ=>∃ ρ,ρ∈C7 4∧R ρ∧ts.map (Jx ρ)=EC σ 0 ts.length) 33700000):=
 (Ux hE hb ρ ts hg hrow htm h4 hf hl).mono fun _ _ h=>h.iff fun σ=>ZY htm σ
end
def r3 (d:Nat):Nat:=4 * (d % 2)+2 * (d / 2 % 2)+d / 4 % 2
def asnF:List Nat→Nat→Nat
 | [],_=>0
 | d :: l,p=>asnF l (p+1)+r3 d * 2 ^ (3 * p)
def asn (l:List Nat):Nat:=asnF l 0
theorem bO (d:Nat):r3 d<8:=by unfold r3;omega
theorem iG:∀ d,d<8→4 * ((r3 d).testBit 0).toNat+2 * ((r3 d).testBit 1).toNat+((r3 d).testBit 2).toNat=d:=by decide
theorem VQ:∀ (l:List Nat) (p:Nat),∃ z,asnF l p=z * 2 ^ (3 * p)
 | [],_=>⟨0,by simp [asnF]⟩
 | d :: l,p=>by
  obtain ⟨z,hz⟩:=VQ l (p+1);refine ⟨z * 8+r3 d,?_⟩;simp only [asnF];rw [hz,show 3 * (p+1)=3 * p+3 by omega,Nat.pow_add,D0,Nat.mul_assoc,DQ (2 ^ (3 * p)) (2 ^ 3),show (2:Nat) ^ 3=8 from rfl]
theorem kV (d:Nat) (l:List Nat) (p v:Nat) (h:3 * p≤v):(asnF (d :: l) p).testBit v=if v<3 * p+3 then (r3 d).testBit (v - 3 * p) else (asnF l (p+1)).testBit v:=by
 obtain ⟨z,hz⟩:=VQ l (p+1);have:=Pg z (r3 d) (3 * p) 3 v (bO d);rw [show 3 * p+3=3 * (p+1) by omega] at this;simp only [asnF];rw [hz,this,if_neg (by omega),show 3 * (p+1)=3 * p+3 by omega]
theorem IE:∀ {c:Nat} {l:List Nat} (p:Nat),l∈C7 c→EC (Gf (asnF l p:Nat)) p c=l
 | 0,l,p,h=>by simp [C7] at h;subst h;rfl
 | c+1,l,p,h=>by
  simp only [C7,A2,CH,AR] at h;obtain ⟨d,hd,m,hm,rfl⟩:=h;have hb:∀ v:Nat,3 * p≤v→Gf ((asnF (d :: m) p:Nat):Int) (v:Int)=if v<3 * p+3 then (r3 d).testBit (v - 3 * p) else Gf ((asnF m (p+1):Nat):Int) (v:Int):=fun v hv=>by
   show J3 _ _=if _ then _ else J3 _ _;rw [Ph,Ph,kV d m p v hv]
  simp only [EC];congr 1
  ·unfold Fd;rw [hb _ (by omega),hb _ (by omega),hb _ (by omega),if_pos (by omega),if_pos (by omega),if_pos (by omega),Nat.sub_self,show 3 * p+1 - 3 * p=1 by omega,show 3 * p+2 - 3 * p=2 by omega];exact iG d hd
  ·refine (JG c (p+1) fun v h1 h2=>?_).trans (IE (p+1) hm);rw [hb v (by omega),if_neg (by omega)]
theorem kU {c:Nat} {l m:List Nat} (hl:l∈C7 c) (hm:m∈C7 c) (h:asn l=asn m):l=m:=by
 have h1:=IE 0 hl;have h2:=IE 0 hm;unfold asn at h;rw [h,h2] at h1;exact h1.symm
theorem Ma:∀ (c p:Nat),Kg (3 * c) (3 * p)=(C7 c).map (asnF · p)
 | 0,p=>by simp [Kg,C7,asnF]
 | c+1,p=>by
  have ih:=Ma c (p+1);rw [show 3 * (c+1)=3 * c+1+1+1 by omega];have e3:3 * p+1+1+1=3 * (p+1):=by omega
  have hp1:2 ^ (3 * p+1)=2 * 2 ^ (3 * p):=by rw [CZ,DQ]
  have hp2:2 ^ (3 * p+1+1)=4 * 2 ^ (3 * p):=by rw [CZ,CZ];omega
  have e5:∀ q:Nat,4 * q+q=5 * q:=fun q=>by omega
  have e3':∀ q:Nat,2 * q+q=3 * q:=fun q=>by omega
  have e7:∀ q:Nat,6 * q+q=7 * q:=fun q=>by omega
  simp only [Kg,e3,ih,hp1,hp2,Ar,C8,Ag];simp [C7,List.range_succ,asnF,r3,Function.comp_def,Nat.add_assoc,←Nat.add_mul,e5,e3',e7]
theorem Ya {S:ST} {f:Int} {c:Nat} {R:List Nat→Prop} (h:GL S f c R):∀ y,y∈S.trues f (3 * c)↔∃ l,l∈C7 c∧R l∧y=asn l:=by
 intro y;unfold ST.trues;rw [Ap,show (0:Nat)=3 * 0 from rfl,Ma c 0,AR];constructor
 ·rintro ⟨⟨l,hl,rfl⟩,hd⟩;refine ⟨l,hl,?_,rfl⟩;have:=(h.2 _).1 hd;rwa [IE 0 hl] at this
 ·rintro ⟨l,hl,hr,rfl⟩;refine ⟨⟨l,hl,rfl⟩,(h.2 _).2 ?_⟩;unfold asn;rwa [IE 0 hl]
end
end Go.Proofs.YtgjomknpjigkhaaGreatDoor
