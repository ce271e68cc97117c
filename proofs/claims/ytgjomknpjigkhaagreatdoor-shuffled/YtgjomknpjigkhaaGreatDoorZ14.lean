import Derived.Test.YtgjomknpjigkhaaGreatDoorZ13
namespace Go.Proofs.YtgjomknpjigkhaaGreatDoor
open Go.Proofs.Tryz
set_option maxRecDepth 100000
set_option maxHeartbeats 4000000
section
open Go.RowKit
theorem F9.other {w w':World} {bb gr cr:Nat} {B:SB} {S S':ST} {rs:List BF} {x0 x1 x3:Value} {T:List Nat} (h:F9 w bb B S gr cr rs x0 x1 x3) (k:AA T w w') (hb:bb∉T) (hg:gr∉T) (hm:∀ r∈rs,r.rm∉T) (hE:DB w' B S'):F9 w' bb B S' gr cr rs x0 x1 x3:=by
 obtain ⟨cs,h1,h2⟩:=h.rel;exact ⟨h.cells.keeps k hb,hE,⟨cs,h1.keeps k hg,h2⟩,fun r hr=>(h.maps r hr).kept k (hm r hr),h.bbB,h.grB,h.rmB,h.bbgr,h.bbrm,h.grrm,h.nodup,h.few,h.cols⟩
def Zm (us:List GV) (HS:Nat→List (List Nat→Prop)) (Xf:Nat→List Nat→Prop) (j p:Nat):List (List Nat→Prop):=if p<j then (match us[p]? with | some u=>Gb (HS p) (u.c.lits.map (FJ Xf)) u.c.lits.length | none=>HS p) else HS p
def Lm (us us':List GV) (j:Nat):Prop:=us'.length=us.length∧∀ (p:Nat) (u:GV),us[p]?=some u→∃ u',us'[p]?=some u'∧u'.toCluX=u.toCluX∧u'.gh=u.gh∧u'.ch=u.ch∧u'.hs.length=u.hs.length∧(j≤p→u' = u)
theorem Lm.step {us us':List GV} {j:Nat} (h:Lm us us' j) {v:GV} (hv:us'[j]?=some v) {hs:List Int} (hl:hs.length=v.hs.length):Lm us (us'.set j { v with hs:=hs }) (j+1):=by
 have hjl:=(AL.1 hv).1;refine ⟨by rw [BI];exact h.1,fun p u hp=>?_⟩;obtain ⟨u',h1,h2,h3,h4,h5,h6⟩:=h.2 p u hp;rw [Aw];by_cases e:j=p
 ·subst e;rw [hv] at h1;cases h1;rw [if_pos rfl,if_pos hjl];exact ⟨_,rfl,h2,h3,h4,hl.trans h5,fun q=>by omega⟩
 ·rw [if_neg e];exact ⟨u',h1,h2,h3,h4,h5,fun q=>h6 (by omega)⟩
theorem Jm.stepR {S:ST} {us us':List GV} {HS:Nat→List (List Nat→Prop)} {Xf:Nat→List Nat→Prop} {j:Nat} (h:Jm S us' (Zm us HS Xf j)) {v:GV} (hu:us[j]?=some v) (hv:us'[j]?=some v) {hs:List Int} (hH:JU S hs (Gb (HS j) (v.c.lits.map (FJ Xf)) v.c.lits.length)):Jm S (us'.set j { v with hs:=hs }) (Zm us HS Xf (j+1)):=by
 have hjl:=(AL.1 hv).1;intro p u hp;rw [Aw] at hp;by_cases e:j=p
 ·subst e;rw [if_pos rfl,if_pos hjl] at hp;cases hp;have:Zm us HS Xf (j+1) j=Gb (HS j) (v.c.lits.map (FJ Xf)) v.c.lits.length:=by unfold Zm;rw [if_pos (by omega),hu]
  rw [this];exact hH
 ·rw [if_neg e] at hp;have:=h p u hp;have e2:Zm us HS Xf (j+1) p=Zm us HS Xf j p:=by
   unfold Zm;have:p<j+1↔p<j:=(by omega);simp only [this]
  rw [e2];exact this
def NxtTo (B:SB) (gr:Nat) (rs:List BF) (gu:Nat) (us:List GV) (HS:Nat→List (List Nat→Prop)) (Xf:Nat→List Nat→Prop) (rks:Nat→List Nat→Option Nat) (w:World) (S:ST) (e:Ending) (w':World):Prop:=
 ∃ g cf fs S' us',e=.returned (.slice (some ⟨g,0,none⟩) rs.length cf)∧w.heap.size≤g∧B8 w' g fs∧DB w' B S'∧AA (us.map (·.gh)++B.own) w w'∧EK S S'∧S'.next≤S.next+10520000000∧Fl S' rs fs (Jl (JG us HS Xf us.length 0) rks rs.length)∧FS w' (ftp B gr rs) gu us'∧Lm us us' us.length∧Jm S' us' (Zm us HS Xf us.length)
def NxIn (B:SB) (WC:World) (S1:ST) (Hs:List (List Nat→Prop)) (c:Ac) (Xf:Nat→List Nat→Prop) (gh gc:Nat) (y:Value) (wr:World):Prop:=
 ∃ (i:Nat) (hs2 cams:List Int) (S2:ST),y=.int .i64 i∧i≤c.lits.length∧B8 wr gh hs2∧Hid (hs2.length=c.lits.length)∧B8 wr gc cams∧Hid (cams.length=c.lits.length)∧DB wr B S2∧AA (gc :: gh :: B.own) WC wr∧EK S1 S2∧S2.next≤S1.next+16773132 * i∧JU S2 hs2 (Gb Hs (c.lits.map (FJ Xf)) i)∧Hid (∀ (k:Nat) (y:Int) (a:BW×Bool),k<i→cams[k]?=some y→c.lits[k]?=some a→GW S2 y 4 (FJ Xf a))
set_option maxHeartbeats 8000000 in
theorem T8 {w:World} {bb gr cr:Nat} {B:SB} {S:ST} {rs:List BF} {x0 x1 x3:Value} (h:F9 w bb B S gr cr rs x0 x1 x3) {Fs:Nat→List Nat→Prop} {rks:Nat→List Nat→Option Nat} (ha:En S rs Fs rks) {gu uc:Nat} {ua:Option Addr} {us:List GV} (hua:0<us.length→ua=some ⟨gu,0,none⟩) (hu:FS w (ftp B gr rs) gu us) (hbu:∀ u∈us,u.gh≠bb) (hok:∀ u∈us,Ny rs u.c∧0<u.c.lits.length) {HS:Nat→List (List Nat→Prop)} (hH:Jm S us HS) {gF cF:Nat} {fsF:List Int} {Xf:Nat→List Nat→Prop} (hF:B8 w gF fsF) (hgF:gF∉us.map (·.gh)++B.own) (hFf:Fl S rs fsF Xf) (h52:us.length≤52) (hl:S.next+10600000000<GN) :
  Calls prog 219 #[.pointer (some ⟨bb,0,none⟩),.slice ua us.length uc,.slice (some ⟨gF,0,none⟩) rs.length cF] w (NxtTo B gr rs gu us HS Xf rks w S):=by
 have h6:=h.few;have kA:=AA.alloc [] w (.cells #[.int .i64 0] 3);have hA:=AK.new w #[.int .i64 0] 3;have zA:=AX w (.cells #[.int .i64 0] 3);have hbA:=h.keeps0 kA;have c2:=hbA.cells.cell 2;simp at c2;have hA0:(w.alloc (.cells #[.int .i64 0] 3)).cell? ⟨w.heap.size,0,none⟩=some (.int .i64 0):=by rw [hA.cell];rfl
 have hrep:=AD (L4 (cx:=1) (n:=rs.length) hA0 (by omega) h6);have Hl:=AD hl;clear hl hA0;generalize hWA:w.alloc (.cells #[.int .i64 0] 3)=WA at *;go_in
 go_wp2_with fail
 refine hrep.out.mono ?_;rintro e W1 ⟨g,cf,rfl,hg,hrow,k1⟩;have hg':w.heap.size≤g:=by omega
 have k01:=kA.trans k1;have Hk01:=AD k01;have hE1:=h.eng.keeps0 k01
 have hz0:Fl S rs (List.replicate rs.length 0) (JG us HS Xf 0 0):=⟨by simp,fun i r f h1 h2=>by
  rw [BC] at h2;split at h2
  ·cases h2;exact ⟨Es S,fun σ=>⟨fun q=>absurd q (by simp [CI]),fun ⟨p,u,k,a,hp,_⟩=>absurd hp (by omega)⟩⟩
  ·cases h2⟩
 have hu1:FS W1 (g :: ftp B gr rs) gu us:=(hu.apart (Y:=g :: ftp B gr rs) (fun j hj=>by
  rcases AG.1 hj with rfl | hj
  ·exact .inr hg'
  ·exact .inl hj)).keeps k01
 have hgB:g∉B.own:=h.eng.sat.fresh hg';have hgb:g≠bb:=by have:=h.cells.lt;omega
 clear hWA c2 hbA hrep hA zA kA k1 k01;go_wp2_with fail
 go_loopw [24] (fun y wr=>∃ (j:Nat) (fs:List Int) (S1:ST) (us':List GV),y=.int .i64 j∧j≤us.length∧DB wr B S1∧B8 wr g fs∧AA (g :: (us.map (·.gh)++B.own)) w wr∧EK S S1∧S1.next≤S.next+202292528 * j∧Fl S1 rs fs (JG us HS Xf j 0)∧FS wr (g :: ftp B gr rs) gu us'∧Lm us us' j∧Jm S1 us' (Zm us HS Xf j)) (fun y _=>((us.length:Int) - intOf y).toNat)
 case atStart=>exact ⟨0,_,S,us,rfl,by omega,hE1,hrow,Hk01.out.mono (by simp),EK.refl S,by omega,hz0,hu1,⟨rfl,fun p u hp=>⟨u,hp,rfl,rfl,rfl,rfl,fun _=>rfl⟩⟩,fun i u hi=>by unfold Zm;rw [if_neg (by omega)];exact hH i u hi⟩
 case round=>
  obtain ⟨j,fs,S1,us',rfl,hj,hE,hr,hk,hx,hn,hf,hur,hlk,hHr⟩:=hrel;have Hn:=AD hn;clear hn hrow hE1 hz0 hu1
  have hkb:bb∉g :: (us.map (·.gh)++B.own):=By (Ne.symm hgb) (fun q=>by
   rcases AC.1 q with q | q
   ·obtain ⟨u,hu',e⟩:=AM.1 q;exact hbu u hu' e
   ·exact h.bbB q)
  have hghF:∀ u∈us,u.gh∉ftp B gr rs:=fun u hu'=>(hu.hld u hu').2.1
  have hkg:gr∉g :: (us.map (·.gh)++B.own):=By (by obtain ⟨cs,hc,_⟩:=h.rel;have:=hc.lt;omega) (fun q=>by
   rcases AC.1 q with q | q
   ·obtain ⟨u,hu',e⟩:=AM.1 q;exact hghF u hu' (by rw [e];simp [ftp])
   ·exact h.grB q)
  have hkm:∀ r∈rs,r.rm∉g :: (us.map (·.gh)++B.own):=fun r hr'=>By (by have:=(h.maps r hr').lt;omega) (fun q=>by
   rcases AC.1 q with q | q
   ·obtain ⟨u,hu',e⟩:=AM.1 q;exact hghF u hu' (by rw [e];simp only [ftp,AG,AC,AM];exact .inr (.inl ⟨r,hr',rfl⟩))
   ·exact h.rmB r hr' q)
  have hbr:=h.other hk hkb hkg hkm hE;by_cases hjl:j<us.length
  ·have hjI:(j:Int)<us.length:=(by omega);have hjI':(j:Int)<us'.length:=by rw [hlk.1];exact hjI
   obtain ⟨u,huj⟩:∃ u,us[j]?=some u:=⟨_,AB hjl⟩;obtain ⟨u',hu'j,_,_,_,_,hueq⟩:=hlk.2 j u huj;have e:=hueq (AQ _);subst e;have hum:=AE huj;have hum':=AE hu'j;obtain ⟨cs,hc,hcs⟩:=hur.cells (by have:=hlk.1;omega);have hc4:=hcs j _ hu'j;have hclu:=hur.clu _ hum';obtain ⟨hhr,hhX,hhl⟩:=hur.hld _ hum';obtain ⟨hcok,hl0⟩:=hok _ hum;have hHj:JU S1 u'.hs (HS j):=by have:=hHr j _ hu'j;unfold Zm at this;rw [if_neg (by omega)] at this;exact this
   have hua':=hua (by omega);have hghw:u'.gh<w.heap.size:=(hu.hld _ hum).1.lt;have hguw:gu<w.heap.size:=by obtain ⟨cs0,hc0,_⟩:=hu.cells (by omega);exact hc0.lt
   have hgtw:u'.gt<w.heap.size:=(hu.clu _ hum).head.1;have hghF':=hghF _ hum;have Huj:=AD huj;have Hu'j:=AD hu'j;obtain ⟨⟨c,gt,tc,la,lc,lt⟩,gh,ch,hs⟩:=u';dsimp only at hc4 hclu hhr hhX hhl hcok hl0 hHj hghw hgtw hghF';obtain ⟨gl,hla⟩:∃ gl,la=some ⟨gl,0,none⟩:=by
    obtain ⟨gl,_,_,e,_⟩:=hclu.lits 0 c.lits[0] (AB hl0);exact ⟨gl,e⟩
   subst hla;subst hua';have q0:wr.cell? ⟨gu,j * 4,none⟩=some (.int .i64 (c.head.rel:Int)):=by rw [hc.cell];exact hc4.c0
   have q1:wr.cell? ⟨gu,j * 4+1,none⟩=some (.slice (some ⟨gt,0,none⟩) c.head.terms.length tc):=by rw [hc.cell];exact hc4.c1
   have q2:wr.cell? ⟨gu,j * 4+2,none⟩=some (.slice (some ⟨gl,0,none⟩) c.lits.length lc):=by rw [hc.cell];exact hc4.c2
   have q3:wr.cell? ⟨gu,j * 4+3,none⟩=some (.slice (some ⟨gh,0,none⟩) hs.length ch):=by rw [hc.cell];exact hc4.c3
   have hfew:=hcok.few;rename World=>wo;have kB:=AA.alloc [] wo (.cells #[.int .i64 (c.head.rel:Int),.slice (some ⟨gt,0,none⟩) c.head.terms.length tc,.slice (some ⟨gl,0,none⟩) c.lits.length lc,.slice (some ⟨gh,0,none⟩) hs.length ch] 295);have hB:=AK.new wo #[.int .i64 (c.head.rel:Int),.slice (some ⟨gt,0,none⟩) c.head.terms.length tc,.slice (some ⟨gl,0,none⟩) c.lits.length lc,.slice (some ⟨gh,0,none⟩) hs.length ch] 295;have zB:=AX wo (.cells #[.int .i64 (c.head.rel:Int),.slice (some ⟨gt,0,none⟩) c.head.terms.length tc,.slice (some ⟨gl,0,none⟩) c.lits.length lc,.slice (some ⟨gh,0,none⟩) hs.length ch] 295);generalize hWB:wo.alloc (.cells #[.int .i64 (c.head.rel:Int),.slice (some ⟨gt,0,none⟩) c.head.terms.length tc,.slice (some ⟨gl,0,none⟩) c.lits.length lc,.slice (some ⟨gh,0,none⟩) hs.length ch] 295)=WB at *;have d0:=hB.cell 0;have d1:=hB.cell 1;have d2:=hB.cell 2;have d3:=hB.cell 3;simp at d0 d1 d2 d3;have hmk:=Kb WB c.lits.length (by omega);have kC:=AA.alloc [] WB (.cells (madeCells #[.int .i64 0] c.lits.length) 3);have hC:B8 (WB.alloc (.cells (madeCells #[.int .i64 0] c.lits.length) 3)) WB.heap.size (List.replicate c.lits.length 0):=by
    refine ⟨_,AK.new _ _ _,fun i x hx=>?_⟩;rw [BC] at hx;split at hx
    ·rename_i hi;cases hx;exact LW _ _ hi
    ·cases hx
   have zC:=AX WB (.cells (madeCells #[.int .i64 0] c.lits.length) 3);generalize hWC:WB.alloc (.cells (madeCells #[.int .i64 0] c.lits.length) 3)=WC at *;rw [zB] at hC hmk zC;have hBC:=hB.keeps kC;have e2:=hBC.cell 2;simp at e2;have kBC:=kB.trans kC;have hwo:w.heap.size≤wo.heap.size:=hk.size;have hCsl:(c.lits.map (FJ Xf)).length=c.lits.length:=(by simp);have Hhl:=AD hhl;clear hcs hc4 hc hueq hhl;go_wp2_with fail
   clear d0 d1 d2 d3 e2 q0 q1 q2 q3 hmk hWB hWC hB kB kC zB;generalize hyo:wo.heap.size=yo at *
   have hurC:FS WC ((yo+1) :: g :: ftp B gr rs) gu us':=(hur.apart (Y:=(yo+1) :: g :: ftp B gr rs) (fun q hq=>by
    rcases AG.1 hq with rfl | hq
    ·exact .inr (by omega)
    ·exact .inl hq)).keeps kBC
   have hcluC:=hurC.clu _ (AE Hu'j.out);have hhrC:=hhr.keepsE kBC;have hECC:=hE.keeps0 kBC;have hgcB:yo+1∉B.own:=h.eng.sat.fresh (by omega);have hghB:gh∉B.own:=fun q=>hghF' (DR q);have hTX:∀ q∈(yo+1) :: gh :: B.own,q∈us'.map (·.gh)++((yo+1) :: g :: ftp B gr rs)∨WC.heap.size≤q:=fun q hq=>by
    rcases AG.1 hq with rfl | hq
    ·exact .inl (AC.2 (.inr (by simp)))
    ·rcases AG.1 hq with rfl | hq
     ·exact .inl (AC.2 (.inl (AM.2 ⟨_,AE Hu'j.out,rfl⟩)))
     ·exact .inl (AC.2 (.inr (by simp [DR hq])))
   have hbbT:bb∉(yo+1) :: gh :: B.own:=By (by have:=h.cells.lt;omega) (By (fun e=>hbu _ (AE Huj.out) e.symm) h.bbB);have hgFw:=hF.lt;have hgFgh:gF≠gh:=fun e=>hgF (AC.2 (.inl (AM.2 ⟨_,AE Huj.out,e.symm⟩)));have hgFB:gF∉B.own:=fun q=>hgF (AC.2 (.inr q));have hgFT:gF∉(yo+1) :: gh :: B.own:=By (by omega) (By hgFgh hgFB);have hFwo:=hF.keepsE hk (By (by omega) hgF);have hFC:=hFwo.keepsE kBC;have hbC:=hbr.keeps0 kBC;go_loopw [37] (fun y wr=>NxIn B WC S1 (HS j) c Xf gh (yo+1) y wr) (fun y _=>((c.lits.length:Int) - intOf y).toNat)
   case atStart=>exact ⟨0,hs,_,S1,rfl,by omega,hhrC,AD Hhl.out,hC,AD (by simp),hECC,AA.refl _ _,EK.refl S1,by omega,hHj.orZero,AD (fun k y a hk=>by omega)⟩
   case round=>
    obtain ⟨i,hs2,cams,S2,rfl,hi,hh2,hh2l,hc2,hc2l,hE2,hk2,hx2,hn2,hH2,hca⟩:=hrel;have Hn2:=AD hn2;clear hn2;have hbs2:=hbC.bs.keeps hk2 hbbT;have hB2:=hBC.keeps hk2 (By (by omega) (By (by omega) (h.eng.sat.fresh (by omega))));by_cases hil:i<c.lits.length
    ·have hiI:(i:Int)<c.lits.length:=(by omega);obtain ⟨l,hli⟩:∃ l,c.lits[i]?=some l:=⟨_,AB hil⟩;obtain ⟨gl',gq,cc,e,hgl,hglX,hgX,hlit⟩:=(hcluC.keeps hk2 hTX).lits i l hli;have e2:gl' = gl:=by cases e;rfl
     subst e2;have hat:=hcok.lits l (AE hli);obtain ⟨r2,hr21,hr22,hr23⟩:=hat.rel;have hρ2:l.1.rel<rs.length:=(AL.1 hr21).1;have hρ2I:(l.1.rel:Int)<rs.length:=(by omega);have hn3:=h.cols r2 (AE hr21);have hgqB:gq∉B.own:=fun q=>hgX (AC.2 (.inr (by simp [DR q])));have hxx:=hx.trans hx2;obtain ⟨f,hff⟩:∃ f,fsF[l.1.rel]?=some f:=⟨_,AB (by rw [hFf.1];exact hρ2)⟩;have hRf:=(hFf.2 _ r2 f hr21 hff).ext hxx h.eng.wf hE2.wf;have hF2:=hFC.keepsE hk2 hgFT;obtain ⟨ca,hcai⟩:∃ ca,cams[i]?=some ca:=⟨_,AB (by rw [hc2l.out];exact hil)⟩;obtain ⟨hy,hhyi⟩:∃ hy,hs2[i]?=some hy:=⟨_,AB (by rw [hh2l.out];exact hil)⟩;obtain ⟨H0,hH0⟩:∃ H0,(Gb (HS j) (c.lits.map (FJ Xf)) i)[i]?=some H0:=⟨_,AB (by rw [←hH2.1,hh2l.out];exact hil)⟩;have hRy:=hH2.2 i hy H0 hhyi hH0;have kL:=AA.alloc [] wr (.cells #[.int .i64 (l.1.rel:Int),.slice (some ⟨gq,0,none⟩) l.1.terms.length cc,.bool l.2] 279);have hL:=AK.new wr #[.int .i64 (l.1.rel:Int),.slice (some ⟨gq,0,none⟩) l.1.terms.length cc,.bool l.2] 279;have p0:=hlit.rel;have p1:=hlit.tms;have p2:=hlit.no;have hwh:=AD (fun (W:World) (k:AA [] (wr.alloc (.cells #[.int .i64 (l.1.rel:Int),.slice (some ⟨gq,0,none⟩) l.1.terms.length cc,.bool l.2] 279)) W)=>XJ (c:=cc) (ρ:=(l.1.rel:Int)) ((hE2.keeps0 kL).keeps0 k) ((hbs2.keeps kL).keeps k) hgqB ((hlit.row.keeps kL).keeps k) hat.tms (by omega) (by omega) (by rw [hr22];exact hRf) (by have:=Hl.out;have:=Hn.out;have:=Hn2.out;have:=hcok.few;omega));have hFL:=hF2.keepsE kL;have hcL:=hc2.keepsE kL;have hfL:=hFL.cell hff;have hwr:yo+1<wr.heap.size:=hc2.lt;have Hli:=AD hli;obtain ⟨⟨ρ2,tms⟩,no⟩:=l;dsimp only at hL kL p0 p1 p2 hwh hρ2I hρ2 hfL hff hFL hcL hRf;generalize hWL:wr.alloc (.cells #[.int .i64 (ρ2:Int),.slice (some ⟨gq,0,none⟩) tms.length cc,.bool no] 279)=WL at *;have s0:=hL.cell 0;have s1:=hL.cell 1;simp at s0 s1
     have h7:=AD (fun (W7:World) (k:AA B.own WL.drew W7) (v:Value)=>
      let hL7:=(hL.keeps (AA.drew [] WL)).keeps k (hE2.sat.fresh (AQ _));let hc7:=(hcL.keepsE (AA.drew [] WL)).keepsE k hgcB;let hF7:=(hFL.keepsE (AA.drew [] WL)).keepsE k hgFB;let kS:=AA.setCell W7 ⟨yo+1,i,none⟩ v;Ak (show W7.cell? ⟨wr.heap.size,0,none⟩=some (.int .i64 (ρ2:Int)) from by have:=hL7.cell 0;simpa using this) <| Ak (show W7.cell? ⟨wr.heap.size,1,none⟩=some (.slice (some ⟨gq,0,none⟩) tms.length cc) from by have:=hL7.cell 1;simpa using this) <| Ak (hF7.cell hff) <|
      Ak (hc7.cell hcai) <| Ak (hc7.frozenE i) <| Ak (show (W7.setCell ⟨yo+1,i,none⟩ v).cell? ⟨wr.heap.size,0,none⟩=some (.int .i64 (ρ2:Int)) from by have:=(hL7.keeps kS (by simp;omega)).cell 0;simpa using this) <| Ak (show (W7.setCell ⟨yo+1,i,none⟩ v).cell? ⟨wr.heap.size,1,none⟩=some (.slice (some ⟨gq,0,none⟩) tms.length cc) from by have:=(hL7.keeps kS (by simp;omega)).cell 1;simpa using this) ((hF7.keepsE kS (by simp;omega)).cell hff))
     have Hhyi:=AD hhyi;have HH0:=AD hH0;clear hr21 hr22 hli hlit hat hFL hcai hff hhyi hH0 hRf e;go_wp2_with fail
     go_region_held3 (fun w'=>w'.cell? ⟨wr.heap.size,0,none⟩=some (.int .i64 (ρ2:Int))∧w'.cell? ⟨wr.heap.size,1,none⟩=some (.slice (some ⟨gq,0,none⟩) tms.length cc)∧w'.cell? ⟨gF,ρ2,none⟩=some (.int .i64 f)) (first | exact ⟨s0,s1,hfL⟩ | exact ⟨a0,a1,a2⟩ | exact ⟨(h7.out _ k5 _).2.2.2.2.2.1,(h7.out _ k5 _).2.2.2.2.2.2.1,(h7.out _ k5 _).2.2.2.2.2.2.2⟩)
      (first
      | (go_at_call 262
         refine (hwh.out _ (AA.drew [] _)).mono ?_;rintro e W5 ⟨t,S5,rfl,hE5,k5,x5,n5,hr5⟩
         obtain ⟨a0,a1,a2,a3,a4,_⟩:=h7.out W5 k5 undef))
     all_goals
      have kW:AA B.own wr W5:=((kL.trans (AA.drew [] WL)).mono (by simp)).trans k5;have kS:=AA.setCell W5 ⟨yo+1,i,none⟩ (.int .i64 t);have hcS:=((hcL.keepsE (AA.drew [] WL)).keepsE k5 hgcB).setE i t;have hES:=hE5.keeps kS (fun z hz hm=>hgcB (by simp only [AF] at hm;rw [←hm];exact hz));have kW9:AA ((yo+1) :: B.own) wr (W5.setCell ⟨yo+1,i,none⟩ (.int .i64 t)):=(kW.mono (fun z hz=>AP _ hz)).trans (kS.mono (by simp));generalize hW9:W5.setCell ⟨yo+1,i,none⟩ (.int .i64 t)=W9 at *;have hyB:yo∉(yo+1) :: B.own:=By (by omega) (h.eng.sat.fresh (by omega));have hghT:gh∉(yo+1) :: B.own:=By (by omega) hghB;have hb9:=hbs2.keeps kW9 (fun q=>hbbT (by rcases AG.1 q with q | q <;> simp [q]));have hB9:=hB2.keeps kW9 hyB;have hh9:=hh2.keepsE kW9 hghT;have v3:=hB9.cell 3;simp at v3;have v4:=hb9.cell;have vh:=hh9.cell Hhyi.out;have hti:(cams.set i t)[i]?=some t:=by rw [Aw,if_pos rfl,if_pos (by rw [hc2l.out];exact hil)]
      have vc:=hcS.cell hti;have hRt:GW S5 t 4 (FJ Xf (⟨ρ2,tms⟩,no)):=⟨hr5.1,fun σ=>by rw [hr5.2];rfl⟩;have hor:=AD (fun (W:World) (k:AA [] W9 W)=>iD (hES.keeps0 k) (f:=hy) (g:=t) (GL.ext ⟨hRy.1,hRy.2⟩ x5 hE2.wf hE5.wf) ⟨hRt.1,hRt.2⟩ (by have:=Hl.out;have:=Hn.out;have:=Hn2.out;have:=hcok.few;omega))
      have h8:=AD (fun (W7:World) (k:AA B.own W9.drew W7) (v:Value)=>
       let hb7:=(hb9.keeps (AA.drew [] W9)).own k;let hB7:=(hB9.keeps (AA.drew [] W9)).keeps k (h.eng.sat.fresh (by omega));let hh7:=(hh9.keepsE (AA.drew [] W9)).keepsE k hghB;let hc7:=(hcS.keepsE (AA.drew [] W9)).keepsE k hgcB;let kS:=AA.setCell W7 ⟨gh,i,none⟩ v;Ak hb7.cell <| Ak (show W7.cell? ⟨yo,3,none⟩=some (.slice (some ⟨gh,0,none⟩) hs.length ch) from by have:=hB7.cell 3;simpa using this) <| Ak (hh7.cell Hhyi.out) <| Ak (hc7.cell hti) <| Ak (hh7.frozenE i) <|
       Ak (hb7.keeps kS (by simpa using fun e=>hbu _ (AE Huj.out) e.symm)).cell <| Ak (show (W7.setCell ⟨gh,i,none⟩ v).cell? ⟨yo,3,none⟩=some (.slice (some ⟨gh,0,none⟩) hs.length ch) from by have:=(hB7.keeps kS (by simp;omega)).cell 3;simpa using this) ((hc7.keepsE kS (by simp;omega)).cell hti))
      have hEnd:=AD (fun (W6:World) (t6:Int) (S6:ST) (hE6:DB W6 B S6) (k6:AA B.own W9.drew W6) (x6:EK S5 S6) (n6:S6.next≤S5.next+4095) (hr6:GL S6 t6 (fun σ=>H0 (ED σ 0 4)∨FJ Xf (⟨ρ2,tms⟩,no) (ED σ 0 4)))=>
       show NxIn B WC S1 (HS j) c Xf gh (yo+1) (.int .i64 ((i:Int)+1)) (W6.setCell ⟨gh,i,none⟩ (.int .i64 t6)) from by
        have kG:=AA.setCell W6 ⟨gh,i,none⟩ (.int .i64 t6);have hhG:=((hh9.keepsE (AA.drew [] W9)).keepsE k6 hghB).setE i t6;have hcG:=((hcS.keepsE (AA.drew [] W9)).keepsE k6 hgcB).keepsE kG (by simp;omega);have hEG:=hE6.keeps kG (fun z hz hm=>hghB (by simp only [AF] at hm;rw [←hm];exact hz));have kF:AA ((yo+1) :: gh :: B.own) WC (W6.setCell ⟨gh,i,none⟩ (.int .i64 t6)):=(((hk2.trans (kW9.mono (fun z hz=>by rcases AG.1 hz with q | q <;> simp [q]))).trans ((AA.drew [] W9).mono (by simp))).trans (k6.mono (fun z hz=>by simp [hz]))).trans (kG.mono (by simp));refine ⟨i+1,hs2.set i t6,cams.set i t,S6,by simp,by omega,hhG,AD (by rw [BI];exact hh2l.out),hcG,AD (by rw [BI];exact hc2l.out),hEG,kF,hx2.trans (x5.trans x6),by have:=Hn2.out;push_cast;omega,?_,AD (fun k y a hk' hy' ha'=>?_)⟩
        ·refine (hH2.ext (x5.trans x6) hE2.wf hE6.wf).orStep (C:=FJ Xf (⟨ρ2,tms⟩,no)) (by rw [AW,Hli.out];rfl) (by rw [hh2l.out];exact hil) (fun H hH'=>?_);rw [HH0.out] at hH';cases hH';exact ⟨hr6.1,fun σ=>by rw [hr6.2]⟩
        ·rw [Aw] at hy';by_cases e:i=k
         ·subst e;rw [if_pos rfl,if_pos (by rw [hc2l.out];exact hil)] at hy';cases hy';rw [Hli.out] at ha';cases ha';exact hRt.ext x6 hE5.wf hE6.wf
         ·rw [if_neg e] at hy'
          exact (hca.out k y a (by omega) hy' ha').ext (x5.trans x6) hE2.wf hE6.wf)
      have hihs:(i:Int)<hs.length:=by have:=Hhl.out;omega
      have Hil:=AD hil;clear h7 hwh n5 a0 a1 a2 a3 a4 s0 s1 hfL p0 p1 p2 hL hcL hWL hW9 kL kW9 kW kS hh9 hB9 hb9 hES hcS hRt hti hghT hyB hr5 x5 k5 hE5 HH0 Hhyi hRy hF2 hxx Hli hgl hglX hgX hgqB hr23 hn3 hρ2I hρ2 hca hH2 Hn2 hx2 hk2 hE2 hc2l hc2 hh2l hh2 hB2 hbs2;clear hwr hil hi hbC hFC hFwo hgFT hgFB hgFgh hgFw hbbT hTX hghB hgcB hECC hhrC hcluC hurC hCsl hwo kBC hBC hC zC;clear hghF' hgtw hghw hguw hHj hl0 hcok hhX hhr hclu Huj Hu'j hbr hkm hkg hghF hkb Hn hlk hur hf hx hk hr hE hgb hgB hg' hg Hk01 Hl;clear hFf hgF hF hH hok hbu hu ha h;go_wp2_with fail
      go_region_law (first
       | (refine A2 rfl 73 _ _ rfl _ func73 (by kernel_rfl) (by kernel_rfl) [.pointer (some ⟨B.b,0,none⟩),.int .i64 hy,.int .i64 t] rfl ?_
          refine (hor.out _ (AA.drew [] _)).mono ?_;rintro e W6 ⟨t6,S6,rfl,hE6,k6,x6,n6,hr6⟩
          obtain ⟨b0,b1,b2,b3,b4,_⟩:=h8.out W6 k6 undef))
      all_goals
       have hE9:=AD (hEnd.out W6 t6 S6 hE6 k6 x6 n6 hr6);clear h8 hor n6 b0 b1 b2 b3 b4 v3 v4 vh vc hE6 k6 x6 hr6 hEnd;go_wp2_with fail
       go_roundw
       ·exact hE9.out
       ·have:=Hil.out;simp only [intOf];omega
    ·have hiI:¬ (i:Int)<c.lits.length:=(by omega);have e:i=c.lits.length:=(by omega);subst e;rename World=>w2;have hgw:=hr.lt;have hgT:g∉(yo+1) :: gh :: B.own:=By (by omega) (By (by omega) hgB);have hr2:=(hr.keepsE kBC).keepsE hk2 hgT;have hclu2:=hcluC.keeps hk2 hTX;have hgtX:gt∉g :: B.own:=fun q=>hclu2.headX (AC.2 (.inr (by rcases AG.1 q with q | q <;> simp [q,DR])));have hghX:gh∉g :: B.own:=By (by omega) hghB;have hycX:yo+1∉g :: B.own:=By (by omega) hgcB;have hyX:yo∉g :: B.own:=By (by omega) (h.eng.sat.fresh (by omega));have hghm:gh∈us.map (·.gh):=AM.2 ⟨_,AE Huj.out,rfl⟩
     have kd2:AA ((yo+1) :: g :: (us.map (·.gh)++B.own)) w w2:=((hk.mono (fun z hz=>AP _ hz)).trans (kBC.mono (by simp))).trans (hk2.mono (fun z hz=>by
      rcases AG.1 hz with rfl | hz
      ·simp
      ·rcases AG.1 hz with rfl | hz
       ·exact AP _ (AP _ (AC.2 (.inl hghm)))
       ·exact AP _ (AP _ (AC.2 (.inr hz)))))
     have kd:=kd2.drop (show w.heap.size≤yo+1 by omega)
     have hru2:=((hurC.setH (p:=j) Hu'j.out (hs:=hs2) (T:=(yo+1) :: B.own) (by show hs2.length=hs.length;rw [hh2l.out,Hhl.out]) (hk2.mono (fun z hz=>by
      rcases AG.1 hz with rfl | hz
      ·simp
      ·rcases AG.1 hz with rfl | hz
       ·exact C2 ..
       ·simp [hz])) (fun q hq=>by
      rcases AG.1 hq with rfl | hq
      ·exact .inl (by simp)
      ·exact .inl (by simp [DR hq])) hh2))
     have hsl:hs2.length=hs.length:=(by rw [hh2l.out,Hhl.out]);have Hsl:=AD hsl;have hf2:=hf.ext hx2 hE.wf hE2.wf;obtain ⟨rh,hrh,hrhl,_⟩:=hcok.head.rel;have Hrhl:=AD hrhl;have Hrh:=AD hrh;clear hsl hrhl hrh hgw;go_wp2_with fail
     go_loopw [76] (fun y wr=>∃ (k:Nat) (fs3:List Int) (S3:ST),y=.int .i64 k∧k≤c.lits.length∧DB wr B S3∧B8 wr g fs3∧AA (g :: B.own) w2 wr∧EK S2 S3∧S3.next≤S2.next+33800000 * k∧Fl S3 rs fs3 (JG us HS Xf j k)) (fun y _=>((c.lits.length:Int) - intOf y).toNat)
     case atStart=>exact ⟨0,fs,S2,rfl,by omega,hE2,hr2,AA.refl _ _,EK.refl S2,by omega,hf2⟩
     case round=>
      obtain ⟨k,fs3,S3,rfl,hkk,hE3,hr3,hk3,hx3,hn3,hf3⟩:=hrel;have Hn3:=AD hn3;have kw3:=kd.trans (hk3.mono (fun z hz=>by rcases AG.1 hz with q | q <;> simp [q]));clear hn3;by_cases hkl:k<c.lits.length
      ·have hkI:(k:Int)<c.lits.length:=(by omega);have hb3:=h.other kw3 hkb hkg hkm hE3;have hc3:=hc2.keepsE hk3 hycX;have hB3:=hB2.keeps hk3 hyX;have hh3:=hh2.keepsE hk3 hghX;have ht3:=hclu2.head.keeps hk3 hgtX;obtain ⟨y,hy⟩:∃ y,cams[k]?=some y:=⟨_,AB (by rw [hc2l.out];exact hkl)⟩;obtain ⟨a,hak⟩:∃ a,c.lits[k]?=some a:=⟨_,AB hkl⟩;have hfind:=O7 (cf:=cf) hb3 hr3 hgB hgb hf3 (ρ:=c.head.rel) (gt:=gt) (tc:=tc) (ln:=c.lits.length) (lc:=lc) (gh:=gh) (ch:=ch) (la:=some ⟨gl,0,none⟩) (ts:=c.head.terms) ht3 hgtX hcok.head.tms Hrh.out Hrhl.out hh3 hghX (hH2.ext hx3 hE2.wf hE3.wf) (by rw [hh2l.out];exact hfew) ((hca.out k y a hkl hy hak).ext hx3 hE2.wf hE3.wf) (by have:=Hl.out;have:=Hn.out;have:=Hn2.out;have:=Hn3.out;omega);rw [hf3.1,Hsl.out] at hfind;unfold ruV at hfind;have Hfind:=AD hfind;have d0:=hB3.cell 0;have d1:=hB3.cell 1;have d2:=hB3.cell 2;have d3:=hB3.cell 3;simp at d0 d1 d2 d3;have v0:=hc3.cell hy;have Hak:=AD hak;clear hfind hy hak hb3 hc3 hB3 hh3 ht3;go_wp2_with fail
       refine Hfind.out.mono ?_;rintro e W5 ⟨rfl,fs5,S5,hE5,hr5,k5,x5,n5,hf5⟩;rw [Hhl.out] at hf5;have Hn5:=AD n5;have hf6:=hf5.iff (T6 Huj.out Hak.out);clear n5 Hfind d0 d1 d2 d3 v0 hf5;go_wp2_with fail
       go_roundw
       ·exact ⟨k+1,fs5,S5,by simp,by omega,hE5,hr5,hk3.trans k5,hx3.trans x5,by have:=Hn3.out;have:=Hn5.out;push_cast;omega,hf6⟩
       ·simp only [intOf];omega
      ·have hkI:¬ (k:Int)<c.lits.length:=(by omega);have e:k=c.lits.length:=(by omega);subst e
       have hru3:=(hru2.keeps hk3 (fun q hq=>by
        rcases AG.1 hq with rfl | hq
        ·exact .inl (by simp)
        ·exact .inl (by simp [DR hq]))).apart (Y:=g :: ftp B gr rs) (fun q hq=>.inl (AP _ hq))
       have hlk3:=hlk.step Hu'j.out (hs:=hs2) (by show hs2.length=hs.length;exact Hsl.out);have hho3:=(hHr.ext (hx2.trans hx3) hE.wf hE3.wf).stepR Huj.out Hu'j.out (hs:=hs2) (hH2.ext hx3 hE2.wf hE3.wf);have hf6:=hf3.iff (T7 Huj.out);go_wp2_with fail
       go_roundw
       ·exact ⟨j+1,fs3,S3,_,by simp,by omega,hE3,hr3,kw3,hx.trans (hx2.trans hx3),by have:=Hn.out;have:=Hn2.out;have:=Hn3.out;push_cast;omega,hf6,hru3,hlk3,hho3⟩
       ·simp only [intOf];omega
  ·have hjI:¬ (j:Int)<us.length:=(by omega);have e:j=us.length:=(by omega);subst e
   have hwo:=AD (Kq (cf:=cf) hbr (ha.ext hx h.eng.wf hE.wf) hr (fun q=>by
    simp only [ftp,AG,AC,AM] at q;rcases q with q | ⟨x,hx,q⟩ | q
    ·obtain ⟨cs,hc,_⟩:=h.rel;have:=hc.lt;omega
    ·have:=(h.maps x hx).lt;omega
    ·exact hgB q) hgb hf (by have:=Hl.out;have:=Hn.out;omega))
   rw [hf.1] at hwo;go_wp2_with fail
   refine hwo.out.mono ?_;rintro e W5 ⟨rfl,fs',S5,hE5,hr5,k5,x5,n5,hf5⟩;go_wp2_with fail
   go_ret
   refine ⟨g,cf,fs',S5,us',rfl,hg',hr5,hE5,(hk.trans (k5.mono (fun q hq=>by
    rcases AG.1 hq with rfl | hq
    ·simp
    ·simp [hq]))).drop hg',hx.trans x5,by have:=Hn.out;omega,hf5,?_,hlk,hHr.ext x5 hE.wf hE5.wf⟩
   exact (hur.keeps k5 (fun q hq=>by
    rcases AG.1 hq with rfl | hq
    ·exact .inl (by simp)
    ·exact .inl (AP _ (DR hq)))).apart (fun q hq=>.inl (AP _ hq))
end
end Go.Proofs.YtgjomknpjigkhaaGreatDoor
