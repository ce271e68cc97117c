import Derived.Test.YtgjomknpjigkhaaGreatDoorZ38
import Derived.Test.YtgjomknpjigkhaaGreatDoorZ37
import Derived.Test.YtgjomknpjigkhaaGreatDoorCards
import Derived.Test.YtgjomknpjigkhaaGreatDoorTie
namespace Go.Proofs.YtgjomknpjigkhaaGreatDoor
set_option maxRecDepth 100000
set_option maxHeartbeats 4000000
section
open Go.RowKit Go.Shelf
attribute [local go_sem] Oper.semAt_some
theorem Mh (z:Nat) (nm:List UInt8) (back:Bool):∀ (rs:List C0) (l:Nat),∀ i∈EB z nm back rs l,∃ h ls,i=.clause h ls
 | [],_,i,hi=>by cases hi
 | r :: rs,l,i,hi=>by
  rw [EB] at hi;split at hi
  ·exact Mh z nm back rs l i hi
  ·rcases AG.1 hi with rfl | hi
   ·exact ⟨_,_,rfl⟩
   ·exact Mh z nm back rs (l+1) i hi
theorem bB {z:Nat} (h1:1≤z) (h8:z≤8) {nm:List UInt8} (hn:M4 nm) {back:Bool} {rs:List C0} {fs:List Ch} {toks:List Tn} {m:Mean} (hR:Df (ba (Ae (CK z nm back rs fs)))=.ok (toks,m)):Ln z m.clauses:=by
 have h:=Qb h1 h8 hn hR;unfold GA at h;rw [Ab,GD,J9 h1 h8] at h;dsimp only at h;refine PK _ (fun i hi=>?_) h (fun c hc=>by cases hc);rcases AC.1 hi with hi | hi
 ·exact Mh z nm back rs 2 i hi
 ·obtain ⟨a,b,c,_⟩:=Qn z fs _ i hi;exact ⟨a,b,c⟩
theorem N8 {cs:List Ac} {n:Nat} {vals:List Nat} (h:M6 cs n vals) {i:Nat} (hi:i<n):vals.getD i 0<n:=by
 have h1:=h.2.1 i hi;have h2:=Sb n (H8 n (Cf cs) i);unfold E3 at h1;omega
structure Lk (z:Nat) (rc:List Ac) (fs:List Ch) (l0:Nat) (vals:List Nat):Prop where
 fine:Dt (BG z (rc++CE z fs l0))
 st:Dr layG (rc++CE z fs l0) vals
 lay:M6 (rc++CE z fs l0) 4 vals
 head:Ln z (rc++CE z fs l0)
 safe:∀ c∈rc++CE z fs l0,DQ c=false
 lits:∀ c∈rc,c.lits≠[]
theorem dC {z:Nat} (hz:1≤z) (hs:List Ch) (i:Nat) (l:List Nat) (h:Zq z hs i l):∀ x∈l,x<z:=fun x hx=>by
 obtain ⟨f,_,_,rfl⟩:=h;obtain ⟨p,_,rfl⟩:=AM.1 hx;exact KI hz f.L p
section
variable {z:Nat} {rc:List Ac} {fs fs':List Ch} {l0 l1:Nat} {vals vals':List Nat}
theorem Lk.hin (h:Lk z rc fs l0 vals) (hz:1≤z) (h4:z≤4) {F:Nat→List Nat→Prop} (hF:∀ i l,F i l→∀ x∈l,x<z) {rk:Nat→List Nat→Option Nat} (hx:MX (BG z (rc++CE z fs l0)) vals F rk):∀ k,k<4→∀ l r,rk k l=some r→r<100∧∀ x∈l,x<z:=fun k hk l r hr=>⟨jI h.fine h.st hz h4 h.head h.safe hF hx (fun i hi=>N8 h.lay hi) k hk l r hr,dJ h.fine h.st hz h.head h.safe hF hx (fun i hi=>N8 h.lay hi) k hk l (by rw [hr];rfl)⟩
theorem NL (h1:1≤z) (h8:z≤8) {nm:List UInt8} (hn:M4 nm) {back:Bool} {rs:List C0} {toks:List Tn} {m:Mean} (hR:Df (ba (Ae (CK z nm back rs fs)))=.ok (toks,m)):∃ rc l0,Bh (BG z []) (EB z nm back rs 2)=.ok (BG z rc)∧m=BG z (rc++CE z fs l0)∧(∀ vals,Dr layG m.clauses vals→M6 m.clauses m.rels.length vals→Lk z rc fs l0 vals):=by
 obtain ⟨rc,hr,hl,hm⟩:=Yn h1 h8 hn hR;have ha:=LM hR;have hb:=bB h1 h8 hn hR;have hc:=Tm hR;refine ⟨rc,_,hr,hm,fun vals hs hy=>?_⟩;subst hm;exact ⟨ha,hs,hy,hb,hc,hl⟩
end
section
variable {W0 W W':World} {lo eb bb:Nat} {B:SB} {S0:ST} {gr cr:Nat} {rs0:List BF} {tv mv:Value} {ka:Option Addr} {ks:List CluX} {kc:Nat} {z:Nat} {cs:List Ac} {vals:List Nat} {F0 F:Nat→List Nat→Prop} {rk0:Nat→List Nat→Option Nat} {n:Nat}
def lP (W0:World) (lo bb:Nat) (B:SB) (gr cr:Nat) (rs0:List BF) (tv mv:Value) (ka:Option Addr) (ks:List CluX) (kc:Nat) (m:Mean) (vals:List Nat) (n:Nat) (F:Nat→List Nat→Prop) (W:World):Prop:=∃ S rs rk,FA W lo bb B S gr cr rs tv mv ka ks kc m vals F rk∧(ftp B gr rs=ftp B gr rs0∧VH rs0 rs)∧AA (ftp B gr rs0) W0 W∧S.next≤300000000000000+n * 200000000200000∧MX m vals F rk
structure VK (W0:World) (lo eb bb:Nat) (B:SB) (S0:ST) (gr cr:Nat) (rs0:List BF) (tv mv:Value) (ka:Option Addr) (ks:List CluX) (kc:Nat) (m:Mean) (vals:List Nat) (F0:Nat→List Nat→Prop) (rk0:Nat→List Nat→Option Nat):Prop where
 eng:FA W0 lo bb B S0 gr cr rs0 tv mv ka ks kc m vals F0 rk0
 cell:AK W0 eb #[.pointer (some ⟨bb,0,none⟩)]
 out:eb∉bb :: ftp B gr rs0
 fine:Dt m
 st:Dr layG m.clauses vals
 lt:∀ i,i<m.rels.length→vals.getD i 0<m.rels.length
theorem VK.low (h:VK W0 lo eb bb B S0 gr cr rs0 tv mv ka ks kc (BG z cs) vals F0 rk0):∀ j∈bb :: ftp B gr rs0,lo≤j∧j<W0.heap.size:=fun j hj=>⟨h.eng.low j hj,ftp_lt h.eng.bse j hj⟩
theorem lP.keep (h0:VK W0 lo eb bb B S0 gr cr rs0 tv mv ka ks kc (BG z cs) vals F0 rk0) (h:lP W0 lo bb B gr cr rs0 tv mv ka ks kc (BG z cs) vals n F W) {T:List Nat} (k:AA T W W') (hT:∀ j∈T,W0.heap.size≤j):lP W0 lo bb B gr cr rs0 tv mv ka ks kc (BG z cs) vals n F W':=by
 obtain ⟨S,rs,rk,hE,⟨ef,lk⟩,k0,hn,hx⟩:=h;have hlow:=fun j hj=>(h0.low j hj).2;have h1:∀ j∈bb :: ftp B gr rs,j∉T:=fun j hj hm=>by
  rw [ef] at hj;have:=hlow j hj;have:=hT j hm;omega
 have k0':AA (ftp B gr rs0) W0 W':=k0.trans_new k (fun j hj=>.inr (hT j hj));exact ⟨S,rs,rk,h0.eng.like (hE.bse.other k (h1 bb (by simp)) (h1 gr (by simp [ftp])) (fun r hr=>h1 _ (by simp only [ftp,AG,AC,AM];exact .inr (.inr (.inl ⟨r,hr,rfl⟩)))) (hE.bse.eng.keeps k (fun i hi=>h1 i (AP _ (DR hi))))) lk ef k0' hE.all,⟨ef,lk⟩,k0',hn,hx⟩
theorem lP.keep0 (h0:VK W0 lo eb bb B S0 gr cr rs0 tv mv ka ks kc (BG z cs) vals F0 rk0) (h:lP W0 lo bb B gr cr rs0 tv mv ka ks kc (BG z cs) vals n F W) (k:AA [] W W'):lP W0 lo bb B gr cr rs0 tv mv ka ks kc (BG z cs) vals n F W':=h.keep h0 k (by simp)
theorem VK.at (h0:VK W0 lo eb bb B S0 gr cr rs0 tv mv ka ks kc (BG z cs) vals F0 rk0) (k:AA (ftp B gr rs0) W0 W):AK W eb #[.pointer (some ⟨bb,0,none⟩)]:=h0.cell.keeps k (fun hm=>h0.out (AP _ hm))
end
theorem UG {W0 W:World} {lo eb bb:Nat} {B:SB} {S0:ST} {gr cr:Nat} {rs0:List BF} {tv mv:Value} {ka:Option Addr} {ks:List CluX} {kc:Nat} {z:Nat} {rc:List Ac} {fs:List Ch} {l0:Nat} {vals:List Nat} {F0 F:Nat→List Nat→Prop} {rk0:Nat→List Nat→Option Nat} {n:Nat} (h0:VK W0 lo eb bb B S0 gr cr rs0 tv mv ka ks kc (BG z (rc++CE z fs l0)) vals F0 rk0) (hp:Lk z rc fs l0 vals) (hz:1≤z) (h4:z≤4) (h:lP W0 lo bb B gr cr rs0 tv mv ka ks kc (BG z (rc++CE z fs l0)) vals n F W) (hF:∀ i l,F i l→∀ x∈l,x<z) :
  Calls Tryz.prog 22 #[.pointer (some ⟨eb,0,none⟩)] W fun e w'=>(∃ rk,MX (BG z (rc++CE z fs l0)) vals F rk∧e=.returned (.tuple #[.string (XO rk 4),.bool true]))∧AA [] W w':=by
 obtain ⟨S,rs,rk,hE,⟨ef,lk⟩,k0,hS,hx⟩:=h;exact (RF hE h0.fine (h0.at k0) (hp.hin hz h4 hF hx) (by omega)).mono (fun e w' q=>⟨⟨rk,hx,q.1⟩,q.2⟩)
theorem UE {W:World} {lo eb bb:Nat} {B:SB} {S:ST} {gr cr:Nat} {rs:List BF} {tv mv:Value} {ka:Option Addr} {ks:List CluX} {kc:Nat} {z:Nat} {rc:List Ac} {fs:List Ch} {l0:Nat} {vals:List Nat} {rk:Nat→List Nat→Option Nat} (hM:VG W lo eb (BG z (rc++CE z fs l0)) bb B S gr cr rs tv mv ka ks kc vals rk) (hp:Lk z rc fs l0 vals):VK W lo eb bb B S gr cr rs tv mv ka ks kc (BG z (rc++CE z fs l0)) vals (Zq z fs) rk∧lP W lo bb B gr cr rs tv mv ka ks kc (BG z (rc++CE z fs l0)) vals 0 (Zq z fs) W:=by
 have hE:=hM.eng;have hx:=ZQ hp.fine hp.st (hM.lays hp.fine);have e:Ew (BG z (rc++CE z fs l0)).clauses=Zq z fs:=SQ hp.lits fs l0;rw [e] at hE hx;exact ⟨⟨hE,hM.cell,hM.out,hp.fine,hp.st,fun i hi=>N8 hp.lay hi⟩,S,rs,rk,hE,⟨rfl,VH.refl _⟩,AA.refl _ _,by have:=hM.next;omega,hx⟩
end
section
open Go.RowKit
def PL (back:Bool) (rs:List C0):List (Bu×List Bu):=(rs.filter (fun r=>!r.body.isEmpty)).map (fun r=>(r.head,D5 back r))
def lO (z:Nat) (L:List (Bu×List Bu)) (rc:List Ac):Prop:=(∀ c∈rc,∃ p∈L,XF z p.1 p.2 c)∧(∀ p∈L,∃ c∈rc,XF z p.1 p.2 c)
theorem cE (back:Bool) (r:C0):(D5 back r).length≤4:=by
 unfold D5;split
 ·rw [Cq,BH];omega
 ·rw [BH];omega
section
variable {z:Nat} {nm:List UInt8} (h1:1≤z) (h8:z≤8)
include h1 h8 in
theorem Gi (hi:Jf nm) {back:Bool}:∀ (rs:List C0) (l:Nat) {cs:List Ac},(cs.length+(PL back rs).length≤52→∃ rc,Bh (BG z cs) (EB z nm back rs l)=.ok (BG z (cs++rc))∧rc.length=(PL back rs).length∧lO z (PL back rs) rc)∧(cs.length≤52→52<cs.length+(PL back rs).length→∃ n,Bh (BG z cs) (EB z nm back rs l)=.error (6,n))
 | [],l,cs=>⟨fun _=>⟨[],by simp [EB,Bh],rfl,by simp [lO,PL]⟩,fun h h'=>by simp [PL] at h';omega⟩
 | r :: rs,l,cs=>by
  by_cases hb:r.body.isEmpty=true
  ·have e:PL back (r :: rs)=PL back rs:=by unfold PL;rw [BS (by simp [hb])]
   rw [EB,if_pos hb,e];exact Gi hi rs l
  ·have e:PL back (r :: rs)=(r.head,D5 back r) :: PL back rs:=by unfold PL;rw [BO (by simpa using hb)];rfl
   have hs:=Yc (cs:=cs) h1 h8 hi l r.head (D5 back r) (cE back r);have hcl:=iP (z:=z) l r.head (D5 back r);generalize fR z (addL (addV [] (Ei r.head)) (D5 back r)) l r.head (D5 back r)=c at hs hcl;have ih:=Gi hi rs (l+1) (cs:=cs++[c]) (back:=back);rw [AJ,Ah] at ih;rw [EB,if_neg hb,e,Bh,hs,AU];constructor
   ·intro hle;obtain ⟨rc,h2,h3,h4,h5⟩:=ih.1 (by omega);rw [if_neg (by omega)];refine ⟨c :: rc,?_,by rw [AU,h3],fun d hd=>?_,fun p hp=>?_⟩
    ·dsimp only;rw [h2,Ab];rfl
    ·rcases AG.1 hd with rfl | hd
     ·exact ⟨_,C2,hcl⟩
     ·obtain ⟨p,hp,q⟩:=h4 d hd;exact ⟨p,AP _ hp,q⟩
    ·rcases AG.1 hp with rfl | hp
     ·exact ⟨_,C2,hcl⟩
     ·obtain ⟨d,hd,q⟩:=h5 p hp;exact ⟨d,AP _ hd,q⟩
   ·intro h52 hgt;by_cases h:cs.length=52
    ·rw [if_pos h];exact ⟨l,rfl⟩
    ·rw [if_neg h];exact ih.2 (by omega) (by omega)
include h1 h8 in
theorem JM:∀ (fs:List Ch) (l:Nat) {cs:List Ac},(cs.length+fs.length≤52→Bh (BG z cs) (FL z fs l)=.ok (BG z (cs++CE z fs l)))∧(cs.length≤52→52<cs.length+fs.length→∃ n,Bh (BG z cs) (FL z fs l)=.error (6,n))
 | [],l,cs=>⟨fun _=>by simp [FL,Bh,CE],fun h h'=>by simp at h';omega⟩
 | f :: fs,l,cs=>by
  have hs:=PA (z:=z) h8 (cs:=cs) (l:=l) (IU f.rel) (bs:=DG z f.L (kOf f.rel)) (by simp [DG]) (fun b hb=>by
   obtain ⟨i,_,rfl⟩:=AM.1 hb
   exact KI h1 f.L i)
  have ih:=JM fs (l+1) (cs:=cs++[dQ l (kOf f.rel) (DG z f.L (kOf f.rel))]);rw [AJ,Ah] at ih;rw [FL,Bh,hs,AU];constructor
  ·intro hle;rw [if_neg (by omega)];dsimp only;rw [ih.1 (by omega),CE,Ab];rfl
  ·intro h52 hgt;by_cases h:cs.length=52
   ·rw [if_pos h];exact ⟨l,rfl⟩
   ·rw [if_neg h];exact ih.2 (by omega) (by omega)
include h1 h8 in
theorem LN (hi:Jf nm) {back:Bool} (rs:List C0) (fs:List Ch):((PL back rs).length+fs.length≤52→∃ rc l0,Bh E7 (GA z nm back rs fs)=.ok (BG z (rc++CE z fs l0))∧lO z (PL back rs) rc∧Bh (BG z []) (EB z nm back rs 2)=.ok (BG z rc))∧(52<(PL back rs).length+fs.length→∃ n,Bh E7 (GA z nm back rs fs)=.error (6,n)):=by
 have hr:=Gi h1 h8 hi rs 2 (cs:=[]) (back:=back);rw [Ao,Ag] at hr;unfold GA;rw [Ab,GD,J9 h1 h8];dsimp only;rw [GD];constructor
 ·intro hle;obtain ⟨rc,e,hl,hm⟩:=hr.1 (by omega);rw [BM] at e;rw [e];dsimp only;exact ⟨rc,_,(JM h1 h8 fs _).1 (by omega),hm,rfl⟩
 ·intro hgt;by_cases h:(PL back rs).length≤52
  ·obtain ⟨rc,e,hl,hm⟩:=hr.1 h;rw [BM] at e;rw [e];dsimp only;exact (JM h1 h8 fs _).2 (by omega) (by omega)
  ·obtain ⟨n,e⟩:=hr.2 (by omega) (by omega);rw [e];exact ⟨n,rfl⟩
include h1 h8 in
theorem LO (hn:M4 nm) (back:Bool) (rs:List C0) (fs:List Ch):Df (ba (Ae (CK z nm back rs fs)))=if 1200<(Ae (CK z nm back rs fs)).length then .error (4,0) else match Bh E7 (GA z nm back rs fs) with
  | .error f=>.error f
  | .ok me=>match GI me with
   | .error f=>.error f
   | .ok _=>.ok (B3 (Bc (CK z nm back rs fs) 1) (C4 (CK z nm back rs fs) 1),me):=by
 have hs:=E2 (CK z nm back rs fs) (Ae (CK z nm back rs fs)).length 1 (Xb h1 h8 hn back rs fs) (AQ _);have hi:=Oh z nm back rs fs [⟨.fin,C4 (CK z nm back rs fs) 1⟩];have hc:=Oi z nm back rs fs;have hq:(B3 (Bc (CK z nm back rs fs) 1) (C4 (CK z nm back rs fs) 1)).length=((Bc (CK z nm back rs fs) 1).length - (GA z nm back rs fs).length+1)+(GA z nm back rs fs).length:=by
  simp only [B3,AJ,AU,Ao];omega
 have e1:DO (B3 (Bc (CK z nm back rs fs) 1) (C4 (CK z nm back rs fs) 1)).length (B3 (Bc (CK z nm back rs fs) 1) (C4 (CK z nm back rs fs) 1))=.ok (GA z nm back rs fs):=by
  rw [hq];unfold B3;rw [hi];have e2:∀ q,DO (q+1) [⟨.fin,C4 (CK z nm back rs fs) 1⟩]=.ok []:=fun q=>rfl;rw [e2];simp
 unfold Df;rw [C9,hs];dsimp only;rw [e1];rfl
end
theorem G4 {p:Ac→Bool}:∀ {cs:List Ac},EC p cs=none↔∀ c∈cs,p c=false
 | []=>by simp [EC]
 | c :: cs=>by
  unfold EC;cases h:p c with
  | true=>simp [h]
  | false=>simp [h,G4 (p:=p) (cs:=cs)]
theorem UW {m:Mean}:(∃ q,GI m=.ok q)↔(∀ c∈m.clauses,DQ c=false)∧∀ c∈m.clauses,ET m.rels.length (Cf m.clauses) c=false:=by
 unfold GI;cases h:EC DQ m.clauses with
 | some l=>
  constructor
  ·rintro ⟨q,hq⟩;cases hq
  ·intro q;rw [G4.2 q.1] at h;cases h
 | none=>
  dsimp only;cases h2:EC (ET m.rels.length (Cf m.clauses)) m.clauses with
  | some l=>
   constructor
   ·rintro ⟨q,hq⟩;cases hq
   ·intro q;rw [G4.2 q.2] at h2;cases h2
  | none=>exact ⟨fun _=>⟨G4.1 h,G4.1 h2⟩,fun _=>⟨_,rfl⟩⟩
theorem WP {m:Mean} {f:I0} (h:GI m=.error f):f.1≠0:=by
 unfold GI at h;split at h
 ·cases h;simp
 ·split at h
  ·cases h;simp
  ·cases h
structure Zl (z:Nat) (nm:List UInt8) (back:Bool) (rs:List C0) (fs:List Ch) (nm':List UInt8) (back':Bool) (rs':List C0) (fs':List Ch):Prop where
 len:(Ae (CK z nm back rs fs)).length=(Ae (CK z nm' back' rs' fs')).length
 rules:(PL back rs).length=(PL back' rs').length
 facts:fs.length=fs'.length
 on:∀ p∈PL back rs,∃ p'∈PL back' rs',p'.1=p.1∧∀ a,a∈p'.2↔a∈p.2
 off:∀ p∈PL back' rs',∃ p'∈PL back rs,p'.1=p.1∧∀ a,a∈p'.2↔a∈p.2
 mem:∀ f,f∈fs↔f∈fs'
theorem Zl.symm {z:Nat} {nm:List UInt8} {back:Bool} {rs:List C0} {fs:List Ch} {nm':List UInt8} {back':Bool} {rs':List C0} {fs':List Ch} (h:Zl z nm back rs fs nm' back' rs' fs'):Zl z nm' back' rs' fs' nm back rs fs:=⟨h.len.symm,h.rules.symm,h.facts.symm,h.off,h.on,fun f=>(h.mem f).symm⟩
theorem R4 {z:Nat} {L L':List (Bu×List Bu)} {rc rc':List Ac} (h:lO z L rc) (h':lO z L' rc') (ha:∀ p∈L,∃ p'∈L',p'.1=p.1∧∀ a,a∈p'.2↔a∈p.2):Pq rc rc':=fun c hc=>by
 obtain ⟨p,hp,q⟩:=h.1 c hc;obtain ⟨p',hp',e1,e2⟩:=ha p hp;obtain ⟨c',hc',q'⟩:=h'.2 p' hp';rw [e1] at q';exact ⟨c',hc',ZJ e2 q q'⟩
theorem Mw {z:Nat} {fs fs':List Ch} (h:∀ f,f∈fs→f∈fs') (l l':Nat):Pq (CE z fs l) (CE z fs' l'):=fun c hc=>by
 obtain ⟨h1,f,hf,h2⟩:=JN fs l hc;obtain ⟨c',hc',h3,h4⟩:=Lc (z:=z) fs' l' (h f hf);refine ⟨c',hc',by rw [h2,h4],by rw [h1];simp,by rw [h3];simp,?_,fun rk t=>?_⟩
 ·unfold DQ KK JO;rw [h1,h2,h3,h4]
 ·rw [h1,h2,h3,h4]
theorem Wj {z:Nat} {fs:List Ch} {l:Nat}:∀ c∈CE z fs l,Gg 4 c:=fun c hc=>by
 obtain ⟨h1,f,hf,h2⟩:=JN fs l hc;exact ⟨by rw [h2];exact IU _,by rw [h1];simp⟩
theorem bY {z:Nat} {L:List (Bu×List Bu)} {rc:List Ac} (h:lO z L rc):∀ c∈rc,Gg 4 c:=fun c hc=>by
 obtain ⟨p,hp,VS,l,_,_,_,rfl⟩:=h.1 c hc
 exact ⟨IU _,fun a ha=>by
  obtain ⟨b,_,rfl⟩:=AM.1 ha
  exact IU _⟩
section
variable {z:Nat} {nm:List UInt8} {back:Bool} {rs:List C0} {fs:List Ch} {nm':List UInt8} {back':Bool} {rs':List C0} {fs':List Ch} (h1:1≤z) (h8:z≤8) (hn:M4 nm) (hi:Jf nm) (hn':M4 nm') (hi':Jf nm') (hS:Zl z nm back rs fs nm' back' rs' fs')
theorem VA {z:Nat} {L:List (Bu×List Bu)} {rc:List Ac} (h:lO z L rc) (fs:List Ch) (l:Nat):∀ c∈rc++CE z fs l,Gg 4 c:=fun c hc=>(AC.1 hc).elim (bY h c) (Wj c)
include h1 h8 hn hi hn' hi' hS in
theorem XW {q:List Tn×Mean} (hq:Df (ba (Ae (CK z nm back rs fs)))=.ok q):∃ q',Df (ba (Ae (CK z nm' back' rs' fs')))=.ok q':=by
 rw [LO h1 h8 hn] at hq;rw [LO h1 h8 hn',←hS.len];split at hq
 ·cases hq
 rename_i hlen;rw [if_neg hlen];have hs:=LN h1 h8 hi rs fs (back:=back);have hs':=LN h1 h8 hi' rs' fs' (back:=back');by_cases hN:(PL back rs).length+fs.length≤52
 ·obtain ⟨rc,l0,e,hm,_⟩:=hs.1 hN;obtain ⟨rc',l1,e',hm',_⟩:=hs'.1 (by rw [←hS.rules,←hS.facts];exact hN);rw [e] at hq;rw [e'];dsimp only at hq ⊢;have hsim:Pq (rc'++CE z fs' l1) (rc++CE z fs l0):=(R4 hm' hm hS.off).append (Mw (fun f hf=>(hS.mem f).2 hf) l1 l0);cases hL:GI (BG z (rc++CE z fs l0)) with
  | error f=>rw [hL] at hq;cases hq
  | ok x=>
   obtain ⟨a,b⟩:=UW.1 ⟨x,hL⟩;obtain ⟨y,hy⟩:=UW.2 (show (∀ c∈(BG z (rc'++CE z fs' l1)).clauses,DQ c=false)∧_ from ⟨hsim.safe a,hsim.circle (VA hm fs l0) (VA hm' fs' l1) b⟩);rw [hy];exact ⟨_,rfl⟩
 ·obtain ⟨n,e⟩:=hs.2 (by omega);rw [e] at hq;cases hq
include h1 h8 hn hi in
theorem Qc {f:I0} (hq:Df (ba (Ae (CK z nm back rs fs)))=.error f):f.1≠0:=by
 rw [LO h1 h8 hn] at hq;split at hq
 ·cases hq;simp
 ·have hs:=LN h1 h8 hi rs fs (back:=back);by_cases hN:(PL back rs).length+fs.length≤52
  ·obtain ⟨rc,l0,e,_⟩:=hs.1 hN;rw [e] at hq;dsimp only at hq;cases hL:GI (BG z (rc++CE z fs l0)) with
   | error g=>rw [hL] at hq;cases hq;exact WP hL
   | ok x=>rw [hL] at hq;cases hq
  ·obtain ⟨n,e⟩:=hs.2 (by omega);rw [e] at hq;cases hq;simp
theorem QW (h1:1≤z) (h8:z≤8) (hi:Jf nm) {rc:List Ac} (hr:Bh (BG z []) (EB z nm back rs 2)=.ok (BG z rc)):lO z (PL back rs) rc:=by
 have hs:=Gi h1 h8 hi rs 2 (cs:=[]) (back:=back);rw [Ao,Ag] at hs;by_cases h:(PL back rs).length≤52
 ·obtain ⟨rc',e,_,hm⟩:=hs.1 h;rw [hr,BM] at e;injection e with e;rw [show rc=rc' from congrArg Mean.clauses e];exact hm
 ·obtain ⟨n,e⟩:=hs.2 (by omega) (by omega);rw [hr] at e;cases e
theorem YX (h1:1≤z) (h8:z≤8) (hi:Jf nm) (hi':Jf nm') (hS:Zl z nm back rs fs nm' back' rs' fs') {rc rc':List Ac} (hr:Bh (BG z []) (EB z nm back rs 2)=.ok (BG z rc)) (hr':Bh (BG z []) (EB z nm' back' rs' 2)=.ok (BG z rc')) {l0 l1:Nat} {vals vals':List Nat} (hp:Lk z rc fs l0 vals) (hp':Lk z rc' fs' l1 vals') {rk rk':Nat→List Nat→Option Nat} (hx:MX (BG z (rc++CE z fs l0)) vals (Zq z fs) rk) (hx':MX (BG z (rc'++CE z fs' l1)) vals' (Zq z fs') rk'):XO rk 4=XO rk' 4:=by
 have hm:=QW h1 h8 hi hr;have hm':=QW h1 h8 hi' hr';have s1:Pq (rc++CE z fs l0) (rc'++CE z fs' l1):=(R4 hm hm' hS.on).append (Mw (fun f hf=>(hS.mem f).1 hf) l0 l1);have s2:Pq (rc'++CE z fs' l1) (rc++CE z fs l0):=(R4 hm' hm hS.off).append (Mw (fun f hf=>(hS.mem f).2 hf) l1 l0);have hv:∀ i,vals.getD i 0=vals'.getD i 0:=fun i=>Nat.le_antisymm (hp.lay.2.2 vals' (s1.stable hp'.st) i) (hp'.lay.2.2 vals (s2.stable hp.st) i);have eF:Zq z fs' = Zq z fs:=by
  funext i l
  apply propext;unfold Zq;simp only [hS.mem]
 rw [eF] at hx';exact TM (jH hp.fine hp.st hx (s1.fix s2 hv hx') (fun i hi=>N8 hp.lay hi)) 4 (AQ _)
end
def bl (ps:List Pc):Nat:=(Ae ps).length
theorem EY (a b:List Pc):bl (a++b)=bl a+bl b:=by unfold bl;rw [Ay,AJ]
theorem OD {α:Type} (g:α→List Pc):∀ l:List α,bl (l.flatMap g)=(l.map (fun x=>bl (g x))).sum
 | []=>rfl
 | a :: l=>by rw [A6,EY,OD g l,Au,List.sum_cons]
theorem TS:∀ (l:List Nat) (x:Nat),(l++[x]).sum=l.sum+x
 | [],x=>by simp
 | a :: l,x=>by rw [A8,List.sum_cons,List.sum_cons,TS l x];omega
theorem RN:∀ l:List Nat,l.reverse.sum=l.sum
 | []=>rfl
 | a :: l=>by rw [List.reverse_cons,TS,RN l,List.sum_cons];omega
theorem Un {α:Type} {g g':α→List Pc} (h:∀ x,bl (g' x)=bl (g x)) (l:List α):bl (l.reverse.flatMap g')=bl (l.flatMap g):=by
 rw [OD,OD,List.map_reverse,RN];congr 1
 exact Bn (fun x _=>h x)
theorem tok1 (z:Nat) (nm:List UInt8) (x:Int):(Cd (Er z nm x)).length=1:=by unfold Er;split <;> rfl
theorem RL:∀ (gs:List Sg),(∀ g∈gs,(Cd g).length=1)→bl (E0 gs)=3 * gs.length
 | [],_=>rfl
 | g :: gs,h=>by
  have e:E0 (g :: gs)=[.t .comma,.sp,.t g]++E0 gs:=by simp [E0]
  rw [e,EY,RL gs (fun x hx=>h x (by simp [hx])),AU];have:bl [.t .comma,.sp,.t g]=2+(Cd g).length:=by
   have e2:bl [.t g]=(Cd g).length:=by
    unfold bl;rw [CJ,AJ];rfl
   rw [show [Pc.t .comma,.sp,.t g]=[Pc.t .comma,.sp]++[.t g] from rfl,EY,e2];rfl
  rw [this,h g (by simp)];omega
theorem Z4 {gs gs':List Sg} (h:∀ g∈gs,(Cd g).length=1) (h':∀ g∈gs',(Cd g).length=1) (hl:gs.length=gs'.length):bl (Ga gs)=bl (Ga gs'):=by
 have one:∀ (g:Sg) (ps:List Pc),bl (.t g :: ps)=(Cd g).length+bl ps:=fun g ps=>by
  unfold bl;rw [CJ,AJ];rfl
 cases gs with
 | nil=>
  cases gs' with
  | nil=>rfl
  | cons a l=>simp at hl
 | cons a l=>
  cases gs' with
  | nil=>simp at hl
  | cons b l'=>
   simp at hl;unfold Ga;rw [one,one,h a (by simp),h' b (by simp),RL l (fun x hx=>h x (by simp [hx])),RL l' (fun x hx=>h' x (by simp [hx])),hl]
theorem X1 (z:Nat) (nm nm':List UInt8) (a:Bu):bl (Di z nm' a)=bl (Di z nm a):=by
 unfold Di;rw [EY,EY];congr 1
 unfold Jd;have c:∀ (p q:Pc) (ps:List Pc),bl (p :: q :: ps)=bl [p,q]+bl ps:=fun p q ps=>EY [p,q] ps;have hk:∀ nm,∀ g∈EE z nm a.L (kOf a.rel),(Cd g).length=1:=fun nm g hg=>by
  obtain ⟨i,_,rfl⟩:=AM.1 hg;exact tok1 ..
 rw [c _ _ (Ga (EE z nm' a.L (kOf a.rel))),c _ _ (Ga (EE z nm a.L (kOf a.rel))),Z4 (hk nm') (hk nm) (by simp [EE])]
theorem mI (z:Nat) (nm nm':List UInt8) (a:Bu):bl (GH z nm' a)=bl (GH z nm a):=by unfold GH;rw [EY,EY,X1 z nm nm']
theorem X0 (z:Nat) (nm:List UInt8) {ls:List Bu} (h:ls≠[]):bl (FQ z nm ls)=2+(ls.map (fun a=>2+bl (GH z nm a))).sum:=by
 cases ls with
 | nil=>exact absurd rfl h
 | cons a ls=>
  have e1:bl [.sp,.t .arrow,.sp]=4:=rfl;have e2:∀ x,bl ([.t .comma,.sp]++GH z nm x)=2+bl (GH z nm x):=fun x=>by rw [EY];rfl
  unfold FQ EZ;rw [EY,EY,e1,OD,Au,List.sum_cons];simp only [e2];omega
theorem gQ (z:Nat) (nm nm':List UInt8) (r:C0):bl (EN z nm' true r)=bl (EN z nm false r):=by
 unfold EN;split
 ·rfl
 ·rename_i hb;have hne:r.body.take 4≠[]:=fun e=>by
   cases hq:r.body with
   | nil=>rw [hq] at hb;simp at hb
   | cons x xs=>rw [hq] at e;simp at e
  show bl (EH z nm' r.head (r.body.take 4).reverse++[.nl])=bl (EH z nm r.head (r.body.take 4)++[.nl]);unfold EH;rw [EY,EY,EY,EY,EY,EY,X1 z nm nm',X0 z nm hne,X0 z nm' (by simpa using hne),List.map_reverse,RN];congr 4
  congr 1
  exact Bn (fun a _=>by rw [mI z nm nm'])
theorem Sq {back:Bool} {rs:List C0} {p:Bu×List Bu}:p∈PL back rs↔∃ r∈rs,r.body.isEmpty=false∧p=(r.head,D5 back r):=by
 unfold PL;rw [AM];constructor
 ·rintro ⟨r,hr,rfl⟩;obtain ⟨a,b⟩:=Ai.1 hr;exact ⟨r,a,by simpa using b,rfl⟩
 ·rintro ⟨r,hr,hb,rfl⟩;exact ⟨r,Ai.2 ⟨hr,by simp [hb]⟩,rfl⟩
theorem gG (z:Nat) (nm nm':List UInt8) (rs:List C0) (fs:List Ch):Zl z nm false rs fs nm' true rs.reverse fs.reverse:=by
 refine ⟨?_,?_,by simp,fun p hp=>?_,fun p hp=>?_,fun f=>by simp⟩
 ·show bl (CK z nm false rs fs)=bl (CK z nm' true rs.reverse fs.reverse);unfold CK;rw [EY,EY,EY,EY,Un (gQ z nm nm') rs,Un (fun _=>rfl) fs]
 ·unfold PL;rw [AY,AY,List.filter_reverse,Cq]
 ·obtain ⟨r,hr,hb,rfl⟩:=Sq.1 hp;exact ⟨(r.head,D5 true r),Sq.2 ⟨r,by simpa using hr,hb,rfl⟩,rfl,fun a=>by simp [D5]⟩
 ·obtain ⟨r,hr,hb,rfl⟩:=Sq.1 hp;exact ⟨(r.head,D5 false r),Sq.2 ⟨r,by simpa using hr,hb,rfl⟩,rfl,fun a=>by simp [D5]⟩
end
section
open Go.RowKit Go.Shelf
attribute [local go_sem] Oper.semAt_some
def mE:List UInt8:=[88,89,90,87]
def mF:List UInt8:=[66,65,68,67]
theorem R0:M4 mE:=⟨rfl,by decide⟩
theorem R1:M4 mF:=⟨rfl,by decide⟩
theorem N5:Jf mE:=by unfold Jf;decide
theorem N6:Jf mF:=by unfold Jf;decide
set_option maxHeartbeats 16000000 in
theorem OW (w:World) (raw:Int) (c0:-9223372036854775808≤raw) (c1:raw≤9223372036854775807) {ra:Option Addr} {rs:List C0} {rc:Nat} (hrs:IF w ra rs) (hrl:rs.length≤10000000000000) {fa:Option Addr} {fs:List Ch} {fc:Nat} (hfs:IK w fa fs) (hfl:fs.length≤10000000000000) :
  Calls Tryz.prog 8 #[.int .i64 raw,.slice ra rs.length rc,.slice fa fs.length fc] w fun e w'=>e=.returned (.bool true)∧AA [] w w':=by
 have hwk:=AD (fun (W:World)=>Sy W);obtain ⟨q0,q4⟩:=Ec raw (n:=4) (by decide);obtain ⟨z,hz⟩:∃ z:Nat,1+LP raw 4=(z:Int):=⟨(1+LP raw 4).toNat,by omega⟩;have hz1:1≤z:=by omega
 have hz4:z≤4:=by omega
 have hz8:z≤8:=by omega
 have hsz:=AD (fun (W:World)=>Ps (w:=W) raw c0 c1);rw [hz] at hsz;have hp1:=AD (fun (W:World) (k:AA [] w W)=>Nu (rc:=rc) (fc:=fc) W (hrs.keeps k) hrl (hfs.keeps k) hfl hz1 hz8 (nm:=mE) rfl);have hp2:=AD (fun (W:World) (k:AA [] w W)=>Og (rc:=rc) (fc:=fc) W (hrs.keeps k) hrl (hfs.keeps k) hfl hz1 hz8 (nm:=mF) rfl);have hS:=gG z mE mF rs fs;obtain ⟨s1,hs1⟩:∃ s,ba (Ae (CK z mE false rs fs))=s:=⟨_,rfl⟩;obtain ⟨s2,hs2⟩:∃ s,ba (Ae (CK z mF true rs.reverse fs.reverse))=s:=⟨_,rfl⟩;have hz1s:s1.size≤9223372036854775807:=by
  rw [←hs1];have:=Tq z mE rs fs;unfold Xd at this;omega
 have hz2s:s2.size≤9223372036854775807:=by
  rw [←hs2];have:=Tp z mF rs.reverse fs.reverse;unfold Xc at this;rw [Cq,Cq] at this;omega
 rw [hs1] at hp1;rw [hs2] at hp2;have Hs:=AD (Ak hs1 hs2);have HS:=AD hS;obtain ⟨R,hR⟩:∃ R,rs.length=R:=⟨_,rfl⟩;obtain ⟨F,hF⟩:∃ F,fs.length=F:=⟨_,rfl⟩;rw [hR] at hp1 hp2 ⊢;rw [hF] at hp1 hp2 ⊢;clear hrs hfs hrl hfl c0 c1 q0 q4 hz hR hF hs1 hs2 hS;have e1:({ data:=#[88,89,90,87] }:ByteArray)=ba mE:=rfl;have e2:({ data:=#[66,65,68,67] }:ByteArray)=ba mF:=rfl;go_in
 simp only [e1,e2];clear e1 e2;go_wp2_with fail
 refine (hwk.out _).mono ?_;rintro e W0 ⟨rfl,k0⟩;go_wp2_with fail
 refine (hsz.out _).mono ?_;rintro e W1 ⟨rfl,e1⟩;have e2:=e1.symm;subst e2;have K0:=AD k0;clear hwk hsz k0;go_wp2_with fail
 refine (hp1.out _ K0.out).mono ?_;rintro e W2 ⟨rfl,k2⟩;have K2:=AD (K0.out.trans k2);clear k2 hp1;go_wp2_with fail
 refine (hp2.out _ K2.out).mono ?_;rintro e W3 ⟨rfl,k3⟩;have K3:=AD (K2.out.trans k3);clear k3 hp2;cases hR1:Df s1 with
 | error f1=>
  have hR2:∃ f2,Df s2=.error f2:=by
   cases h:Df s2 with
   | error f=>exact ⟨f,rfl⟩
   | ok q=>
    rw [←Hs.out.2] at h;obtain ⟨q',h'⟩:=XW hz1 hz8 R1 N6 R0 N5 HS.out.symm h;rw [Hs.out.1,hR1] at h';cases h'
  obtain ⟨f2,hR2⟩:=hR2;have hc1:f1.1≠0:=Qc hz1 hz8 R0 N5 (by rw [Hs.out.1];exact hR1);have hc2:f2.1≠0:=Qc hz1 hz8 R1 N6 (by rw [Hs.out.2];exact hR2);have hm1:=AD (fun (W:World)=>Qk (w:=W) s1 hz1s hR1);have hm2:=AD (fun (W:World)=>Qk (w:=W) s2 hz2s hR2);have hk1:=AD (fun (W:World)=>Ld (w:=W) s1 hz1s);have hk2:=AD (fun (W:World)=>Ld (w:=W) s2 hz2s);rw [hR1] at hk1;rw [hR2] at hk2;simp only [NZ] at hk1 hk2;obtain ⟨F1,F2⟩:=f1;obtain ⟨G1,G2⟩:=f2;dsimp only at hc1 hc2 hk1 hk2;have hc1I:¬ ((F1:Nat):Int)=0:=by omega
  have hc2I:¬ ((G1:Nat):Int)=0:=by omega
  clear hR1 hR2 hc1 hc2;go_wp2_with fail
  refine (hm1.out _).mono ?_;rintro e W4 ⟨rfl,k4⟩;go_wp2_with fail
  refine (hm2.out _).mono ?_;rintro e W5 ⟨rfl,k5⟩;have K5:=AD ((K3.out.trans k4).trans k5);clear k4 k5;go_wp2_with fail
  refine (hk1.out _).mono ?_;rintro e W6 ⟨rfl,k6⟩;have K6:=AD (K5.out.trans k6);have kA:=AA.alloc [] W6 (.cells #[.int .i64 (F1:Int),.int .i64 (F2:Int)] 28);have hA:=AK.new W6 #[.int .i64 (F1:Int),.int .i64 (F2:Int)] 28;have KA:=AD (K6.out.trans kA);have HA:=AD hA;clear k6 kA hA;go_wp2_with fail
  refine (hk2.out _).mono ?_;rintro e W7 ⟨rfl,k7⟩;have kB:=AA.alloc [] W7 (.cells #[.int .i64 (G1:Int),.int .i64 (G2:Int)] 28);have a0:=((HA.out.keeps k7).keeps kB).cell 0;simp at a0;have KB:=AD ((KA.out.trans k7).trans kB);clear k7 kB;go_wp2_with fail
  go_ret
  refine ⟨congrArg (fun b=>Ending.returned (.bool b)) ?_,KB.out⟩;show ((((F1:Nat):Int) != 0) && (((G1:Nat):Int) != 0))=true;rw [bne_iff_ne.2 hc1I,bne_iff_ne.2 hc2I];rfl
 | ok p1=>
  obtain ⟨t1,m1⟩:=p1;have h1':=hR1;rw [←Hs.out.1] at h1';obtain ⟨⟨t2,m2⟩,h2'⟩:=XW hz1 hz8 R0 N5 R1 N6 HS.out h1';have hR2:=h2';rw [Hs.out.2] at hR2;obtain ⟨cl1,l1,hsen1,hme1,hPO1⟩:=NL hz1 hz8 R0 h1';obtain ⟨cl2,l2,hsen2,hme2,hPO2⟩:=NL hz1 hz8 R1 h2';have hm1:=AD (fun (W:World)=>L8 (w:=W) s1 hz1s hR1 (by rw [hme1];show 0<QZ.length;decide));have hm2:=AD (fun (W:World)=>L8 (w:=W) s2 hz2s hR2 (by rw [hme2];show 0<QZ.length;decide));have Hp:=AD (Ak hsen1 (Ak hme1 (Ak hPO1 (Ak hsen2 (Ak hme2 hPO2)))));clear hR1 hR2 h1' h2' hsen1 hme1 hPO1 hsen2 hme2 hPO2;go_wp2_with fail
  refine (hm1.out _).mono ?_;rintro e W4 ⟨⟨eb1,bb1,B1,S1,gr1,cr1,rls1,tv1,mv1,ka1,ks1,kc1,vals1,rk1,rfl,hM1⟩,k4⟩;have HM1:=AD hM1;have K4:=AD (K3.out.trans k4);clear hM1 k4 hm1;go_wp2_with fail
  refine (hm2.out _).mono ?_;rintro e W5 ⟨⟨eb2,bb2,B2,S2,gr2,cr2,rls2,tv2,mv2,ka2,ks2,kc2,vals2,rk2,rfl,hM2⟩,k5⟩;have HM15:=AD (HM1.out.keeps0 k5);have HM2:=AD hM2;have K5:=AD (K4.out.trans k5);obtain ⟨hsen1,hme1,hPO1,hsen2,hme2,hPO2⟩:=Hp.out;have hP1:=hPO1 vals1 HM15.out.stable HM15.out.lay;have hP2:=hPO2 vals2 HM2.out.stable HM2.out.lay;have hA1:=HM15.out;have hA2:=HM2.out;rw [hme1] at hA1;rw [hme2] at hA2;have hE1:=UE hA1 hP1;have hE2:=UE hA2 hP2;have ht1:=AD (UG hE1.1 hP1 hz1 hz4 hE1.2 (dC hz1 _));have ht2:=AD (fun (W:World) (k:AA [] W5 W)=>UG hE2.1 hP2 hz1 hz4 (hE2.2.keep0 hE2.1 k) (dC hz1 _));have Htold:=AD (fun (x y:Nat→List Nat→Option Nat) (hx:MX (BG z (cl1++CE z fs l1)) vals1 (Zq z fs) x) (hy:MX (BG z (cl2++CE z fs.reverse l2)) vals2 (Zq z fs.reverse) y)=>YX hz1 hz8 N5 N6 HS.out hsen1 hsen2 hP1 hP2 hx hy);clear hM2 k5 hm2 hsen1 hme1 hPO1 hsen2 hme2 hPO2 hP1 hP2 hA1 hA2 hE1 hE2 HM1 HM15 HM2 Hp;go_wp2_with fail
  refine ht1.out.mono ?_;rintro e W6 ⟨⟨x1,hx1,rfl⟩,k6⟩;have Hx1:=AD hx1;have ht3:=AD (ht2.out W6 k6);obtain ⟨now,hnow⟩:∃ now,XO x1 4=now:=⟨_,rfl⟩;have Hnow:=AD hnow;rw [hnow];have K6:=AD (K5.out.trans k6);clear hx1 k6 hnow ht1 ht2;go_wp2_with fail
  refine ht3.out.mono ?_;rintro e W7 ⟨⟨x2,hx2,rfl⟩,k7⟩;have hsame:XO x2 4=now:=(Htold.out x1 x2 Hx1.out hx2).symm.trans Hnow.out;rw [hsame];have K7:=AD (K6.out.trans k7);clear hx2 k7 hsame ht3;go_wp2_with fail
  go_ret
  exact ⟨rfl,K7.out⟩
end
section
open Go.ChangeShapes Go.WideShapes Go.ChangeAt Go.RowKit
theorem UX:laidOutB Tryz.prog=true:=by kernel_rfl
theorem hZ:Tryz.prog.readableRec 42=true:=by kernel_rfl
theorem gZ:Tryz.prog.readableRec 43=true:=by kernel_rfl
theorem mA:42<Tryz.prog.types.size:=of_decide_eq_true (by kernel_rfl)
theorem lZ:43<Tryz.prog.types.size:=of_decide_eq_true (by kernel_rfl)
theorem Ly (H:Type) (enc:TypeId×Value→H) (W:World) (base:Nat) (args:Array Value) (ds gs:List (DataW H)) (before:List MemPlace)
  (hval0:∀ (j:Nat) t v,Tryz.f8.params[j]?=some t→args[j]?=some v→Value.okWide Tryz.prog W .any base t v)
  (hW:DataW.Whole enc Tryz.prog Tryz.f8.params.toList Rows.shuffledSpec.vars false W args.toList ds gs before) (hsz0:(DataW.weightsEach Tryz.prog (Tryz.f8.params.toList++Rows.shuffledSpec.plain.varTypes Tryz.prog) (ds++gs)).all (·≤reachBytes)=true) :
  Calls Tryz.prog 8 args W fun e W'=>∃ v,e=.returned v∧Rows.shuffledSpec.post enc Tryz.prog Tryz.f8 false true false false W args v W':=by
 have hval:∀ (j:Nat) t v,Tryz.f8.params[j]?=some t→args[j]?=some v→Value.okWide Tryz.prog W .any base t v:=hval0;have hW':=hW;obtain ⟨p,q,hA0,hV,rfl,hfz,hnd⟩:=hW;have hA:DataW.TrodAll enc Tryz.prog W 0 (fun _=>true) true Tryz.f8.params.toList args.toList ds p:=hA0;have hsz:(DataW.weightsEach Tryz.prog (Tryz.f8.params.toList++[]) (ds++gs)).all (·≤reachBytes)=true:=hsz0;rw [Tryz.params8] at hA hval hsz;obtain ⟨v0,vs0,d0,ds0,p0,q0,hargs,rfl,rfl,h0,r0⟩:=trodAll_cons hA;obtain ⟨v1,vs1,d1,ds1,p1,q1,hargs1,rfl,rfl,h1,r1⟩:=trodAll_cons r0;obtain ⟨v2,vs2,d2,ds2,p2,q2,hargs2,rfl,rfl,h2,r2⟩:=trodAll_cons r1;obtain ⟨rfl,rfl,rfl⟩:=trodAll_nil r2;subst hargs2 hargs1;obtain rfl:args=#[v0,v1,v2]:=by cases args;simp_all
 obtain ⟨rfl,rfl⟩:=trodVars_none hV;clear hA0 hval0 hsz0;have small:∀ (j:Nat) (t:TypeId) (d:DataW H),[3,42,43][j]?=some t→[d0,d1,d2][j]?=some d→Small t d:=fun j t d ht hd n hn=>by
  have:=List.all_eq_true.1 hsz _ (DataW.weights_mem_each (j:=j) (t:=t) (d:=d) (by simpa using ht) (by simpa using hd) n hn);simpa using this
 obtain ⟨n,rfl,rfl,rfl,hwf⟩:=open_int Tryz.underlying3 (hval 0 3 v0 rfl rfl) h0;obtain ⟨a1,l1,c1,rfl⟩:=okWide_slice Tryz.underlying42 (hval 1 42 v1 rfl rfl);obtain ⟨a2,l2,c2,rfl⟩:=okWide_slice Tryz.underlying43 (hval 2 43 v2 rfl rfl)
 obtain ⟨ra,rc,rs,e1,hrs,hrl,hbl⟩:=(show ∃ ad cap,∃ rs:List C0,Value.slice a1 l1 c1=.slice ad rs.length cap∧IF W ad rs∧rs.length * 64≤140737488355328∧∀ r∈rs,r.body.length * 40≤140737488355328 by
  obtain ⟨fuel,hn⟩:=h1;have hn':DataW.trod enc Tryz.prog W 0 (fun _=>true) true fuel 42 [.slice a1 l1 c1]=some (d1,p1):=hn
  exact Vq hn' (small 1 42 d1 rfl rfl))
 obtain ⟨fa,fc,fs,e2,hfs,hfl⟩:=(show ∃ ad cap,∃ fs:List Ch,Value.slice a2 l2 c2=.slice ad fs.length cap∧IK W ad fs∧fs.length≤10000000000000 by
  obtain ⟨fuel,hn⟩:=h2;have hn':DataW.trod enc Tryz.prog W 0 (fun _=>true) true fuel 43 [.slice a2 l2 c2]=some (d2,p2):=hn
  exact Wk hn' (small 2 43 d2 rfl rfl))
 injection e1 with x1 x2 x3;injection e2 with y1 y2 y3;subst x1 x2 x3 y1 y2 y3;refine (OW W n (GJ hwf).1 (GJ hwf).2 hrs (by omega) hfs hfl).mono fun e W' ⟨he,k⟩=>?_;subst he;have hB:=k.below (B:=W.heap.size) (AQ _) (by simp);simp only [BR,BM] at hW';have hlt:∀ x∈p1++p2,x.block<W.heap.size:=fun x hx=>hW'.lt x (by simpa using hx);refine ⟨.bool true,rfl,_,_,_,[],p1++p2,[],hW',trodAll_mk1 (shut_bool Tryz.underlying4 _),?_,rfl,hB.frame _,fun h=>by cases h⟩
 exact trodAll_mk3 (p:=[]) (shut_int Tryz.underlying3 hwf)
  (WideElems.Trod_stays (P:=Tryz.prog) UX hZ mA h1 (fun x hx=>hB.same (hlt x (by simp [hx]))) (fun x hx=>by have:=hlt x (by simp [hx]);simpa using this))
  (WideElems.Trod_stays (P:=Tryz.prog) UX gZ lZ h2 (fun x hx=>hB.same (hlt x (by simp [hx]))) (fun x hx=>by have:=hlt x (by simp [hx]);simpa using this))
theorem OT (f : FuncId) (fn : Func) (hf : Tryz.pinned.checked.prog.funcNamed "thresh/threshkeep.Shuffled" = some f) (hfn : Tryz.pinned.checked.prog.funcs[f]? = some fn) :
  true=Tryz.pinned.checked.prog.looks []∧∀ (j:Nat) t,fn.params[j]?=some t→Tryz.pinned.checked.prog.wantsStandIn t=false:=by
 obtain rfl : f = 8 := Ar ((show Tryz.prog.funcNamed "thresh/threshkeep.Shuffled" = some 8 by kernel_rfl).symm.trans hf) |>.symm
 obtain rfl:fn=Tryz.f8:=(Ar (Tryz.func8.symm.trans hfn)).symm;refine ⟨by kernel_rfl,fun j t ht=>?_⟩;rw [Tryz.params8] at ht;have:t=3∨t=42∨t=43:=by simpa using Array.mem_of_getElem? ht
 rcases this with rfl | rfl | rfl
 ·exact (show Tryz.prog.wantsStandIn 3=false by kernel_rfl)
 ·exact (show Tryz.prog.wantsStandIn 42=false by kernel_rfl)
 ·exact (show Tryz.prog.wantsStandIn 43=false by kernel_rfl)
end
end Go.Proofs.YtgjomknpjigkhaaGreatDoor
