import Derived.Test.YtgjomknpjigkhaaGreatDoorZ12
namespace Go.Proofs.YtgjomknpjigkhaaGreatDoor
open Go.Proofs.Tryz
set_option maxRecDepth 100000
set_option maxHeartbeats 4000000
section
open Go.RowKit
theorem U5 {w:World} {bb gr cr:Nat} {B:SB} {S:ST} {rs:List BF} {x0 x1:Value} {ka:Option Addr} {ks:List CluX} {kc:Nat} (h:F9 w bb B S gr cr rs x0 x1 (.slice ka ks.length kc)) {Fs:Nat→List Nat→Prop} {rks:Nat→List Nat→Option Nat} (ha:En S rs Fs rks) (hks:KU w (ftp B gr rs) ka ks) (hok:∀ k∈ks,Ny rs k.c∧0<k.c.lits.length) (h52:ks.length≤52) (lay:Nat) (hl:S.next+3600000000<GN) :
  Calls prog 216 #[.pointer (some ⟨bb,0,none⟩),.int .i64 (lay:Int)] w (BegTo B rs ks lay rks w S):=by
 have h6:=h.few;obtain ⟨i0,hi0,hz0,hz1,hz2⟩:=info_parts MD;have g3:=h.cells.cell 3;simp at g3;have Hl:=AD hl;have Hfr:=AD (fun j (hj:w.heap.size≤j)=>h.eng.sat.fresh hj);have hown:∀ j∈B.own,j<w.heap.size:=h.eng.sat.lt;clear hl;go_in
 go_wp2_with fail
 clear g3;go_loopw [5,17] (fun x y wr=>∃ (j:Nat) (us:List GV) (S1:ST),y=.int .i64 j∧j≤ks.length∧LF wr w.heap.size S1 rks x us∧Hid (us.map (·.toCluX)=(ks.take j).filter (FI rs lay))∧DB wr B S1∧AA B.own w wr∧EK S S1∧S1.next≤S.next+67108908 * j) (fun _ y _=>((ks.length:Int) - intOf y).toNat)
 case atStart=>exact ⟨0,[],S,rfl,by omega,⟨⟨rfl,.inl ⟨rfl,rfl⟩⟩,fun u hu=>by simp at hu,by simp⟩,AD (by simp),h.eng,AA.refl _ _,EK.refl S,by omega⟩
 case round=>
  obtain ⟨j,us,S1,rfl,hj,hbg,hus,hE,hk,hx,hn⟩:=hrel;have Hn:=AD hn;clear hn;have hbr:=h.store hk hE;by_cases hjl:j<ks.length
  ·have hjI:(j:Int)<ks.length:=(by omega);obtain ⟨k,hkj⟩:∃ k,ks[j]?=some k:=⟨_,AB hjl⟩;have hkm:=AE hkj;have hkr:=hks.keeps hk (fun j hj=>.inl (DR hj));obtain ⟨gk,cs,hka,hgkX,hc,hcs⟩:=hkr.cells (by omega);have hc3:=hcs j k hkj;obtain ⟨hcok,hl0⟩:=hok k hkm;obtain ⟨r,hr1,hr2,hr3⟩:=hcok.head.rel;have hρ:k.c.head.rel<rs.length:=(AL.1 hr1).1;have hρI:(k.c.head.rel:Int)<rs.length:=(by omega);have q0:wr.cell? ⟨gk,j * 3,none⟩=some (.int .i64 (k.c.head.rel:Int)):=by rw [hc.cell];exact hc3.c0
   have q1:wr.cell? ⟨gk,j * 3+1,none⟩=some (.slice (some ⟨k.gt,0,none⟩) k.c.head.terms.length k.tc):=by rw [hc.cell];exact hc3.c1
   have q2:wr.cell? ⟨gk,j * 3+2,none⟩=some (.slice k.la k.c.lits.length k.lc):=by rw [hc.cell];exact hc3.c2
   have htk:ks.take (j+1)=ks.take j++[k]:=by rw [An,hkj];rfl
   have hlo:Fw rs k.c.head.rel=r.layer:=(by simp [Fw,hr1]);have hclu:=hks.clu k hkm;obtain ⟨c,gt,tc,la,lc,lt⟩:=k;dsimp only at q0 q1 q2 htk hlo hr1 hr2 hρ hρI hcok hl0 hclu;obtain ⟨gl,hla⟩:∃ gl,la=some ⟨gl,0,none⟩:=by
    obtain ⟨gl,_,_,e,_⟩:=hclu.lits 0 c.lits[0] (AB hl0);exact ⟨gl,e⟩
   subst hla;have kA:=AA.alloc [] wr (.cells #[.int .i64 (c.head.rel:Int),.slice (some ⟨gt,0,none⟩) c.head.terms.length tc,.slice (some ⟨gl,0,none⟩) c.lits.length lc] 154);have hA:=AK.new wr #[.int .i64 (c.head.rel:Int),.slice (some ⟨gt,0,none⟩) c.head.terms.length tc,.slice (some ⟨gl,0,none⟩) c.lits.length lc] 154;have zA:=AX wr (.cells #[.int .i64 (c.head.rel:Int),.slice (some ⟨gt,0,none⟩) c.head.terms.length tc,.slice (some ⟨gl,0,none⟩) c.lits.length lc] 154);have hbA:=hbr.keeps0 kA;obtain ⟨cr',hcr,hcrs⟩:=hbA.rel;have hrc:=hcrs _ r hr1;have htlk:=AD htk;have Hr2:=AD hr2;have Hlo:=AD hlo;clear htk hlo hcs hc3 hc hr2;rename World=>wo;generalize hWA:wo.alloc (.cells #[.int .i64 (c.head.rel:Int),.slice (some ⟨gt,0,none⟩) c.head.terms.length tc,.slice (some ⟨gl,0,none⟩) c.lits.length lc] 154)=WA at *;have d0:=hA.cell 0;have d1:=hA.cell 1;have d2:=hA.cell 2;have g2:=hbA.cells.cell 2;simp at d0 d1 d2 g2;have g1:WA.cell? ⟨gr,c.head.rel * 5+1,none⟩=some (.int .i64 (r.layer:Int)):=by rw [hcr.cell];exact hrc.c1
   subst hka;by_cases hly:r.layer=lay
   ·have hne:((r.layer:Int) != (lay:Int))=false:=by simp;omega
    go_wp2_with fail
    go_quiet (fail)
    go_wp2_with fail
    have Hf:=AD (show ∀ u:GV,u.toCluX=⟨c,gt,tc,some ⟨gl,0,none⟩,lc,lt⟩→(us++[u]).map (·.toCluX)=(ks.take (j+1)).filter (FI rs lay) from fun u hu=>by
     have e:FI rs lay ⟨c,gt,tc,some ⟨gl,0,none⟩,lc,lt⟩=true:=by unfold FI;rw [Hlo.out];simpa using hly
     rw [htlk.out,List.filter_append,Am,hus.out]
     simp [e,hu])
    have kD:=AA.drewN [] WA nq;have kR:=AA.alloc [] (WA.drewN nq) (.cells #[.int .i64 (c.head.rel:Int),.slice (some ⟨gt,0,none⟩) c.head.terms.length tc,.slice (some ⟨gl,0,none⟩) c.lits.length lc,.slice none 0 0] 295);have hR:=AK.new (WA.drewN nq) #[.int .i64 (c.head.rel:Int),.slice (some ⟨gt,0,none⟩) c.head.terms.length tc,.slice (some ⟨gl,0,none⟩) c.lits.length lc,.slice none 0 0] 295;have zD:(WA.drewN nq).heap.size=wo.heap.size+1:=zA;rw [zD] at hR;have zR:((WA.drewN nq).alloc (.cells #[.int .i64 (c.head.rel:Int),.slice (some ⟨gt,0,none⟩) c.head.terms.length tc,.slice (some ⟨gl,0,none⟩) c.lits.length lc,.slice none 0 0] 295)).heap.size=wo.heap.size+1+1:=(by rw [AX,zD]);have kI:=(kA.trans kD).trans kR;generalize (WA.drewN nq).alloc (.cells #[.int .i64 (c.head.rel:Int),.slice (some ⟨gt,0,none⟩) c.head.terms.length tc,.slice (some ⟨gl,0,none⟩) c.lits.length lc,.slice none 0 0] 295)=WI at *;have hwo:w.heap.size≤wo.heap.size:=hk.size;clear d0 d1 d2 g1 g2 hWA q0 q1 q2 hA hbA hcr hcrs hrc kA kD kR zD;generalize hyo:wo.heap.size=yo at *;go_loopw [38] (fun y wr=>∃ (i:Nat) (hs:List Int) (S2:ST) (hv:Value),y=.int .i64 i∧i≤c.lits.length∧AK wr (yo+1) #[.int .i64 (c.head.rel:Int),.slice (some ⟨gt,0,none⟩) c.head.terms.length tc,.slice (some ⟨gl,0,none⟩) c.lits.length lc,hv]∧Hid (wr.ownsRow (yo+1+1) 3 1 hv i (ints hs))∧DB wr B S2∧AA ((yo+1) :: B.own) WI wr∧EK S1 S2∧S2.next≤S1.next+16773132 * i∧JU S2 hs ((c.lits.take i).map (FY rks))) (fun y _=>((c.lits.length:Int) - intOf y).toNat)
    case atStart=>exact ⟨0,[],S1,_,rfl,by omega,hR,AD ⟨rfl,.inl ⟨rfl,rfl⟩⟩,hE.keeps0 kI,AA.refl _ _,EK.refl S1,by omega,by simp,fun i a b h1=>by simp at h1⟩
    case round=>
     obtain ⟨i,hs,S2,hv,rfl,hi,hcR,hho,hE2,hk2,hx2,hn2,hH2⟩:=hrel;have Hn2:=AD hn2;clear hn2;have hyT:∀ q∈(yo+1) :: B.own,q∈B.own∨w.heap.size≤q:=fun q hq=>by
      rcases AG.1 hq with rfl | hq
      ·exact .inr (by omega)
      ·exact .inl hq
     have kW:AA ((yo+1) :: B.own) w wr:=((hk.mono (fun q hq=>AP _ hq)).trans (kI.mono (by simp))).trans hk2;have hb2:=h.fresh kW hyT hE2;have hxx:=hx.trans hx2;by_cases hil:i<c.lits.length
     ·have hiI:(i:Int)<c.lits.length:=(by omega);have hfew:=hcok.few;obtain ⟨l,hli⟩:∃ l,c.lits[i]?=some l:=⟨_,AB hil⟩;obtain ⟨gl',g,cc,e,hgl,hglX,hgX,hlit⟩:=(hclu.keeps kW (fun q hq=>(hyT q hq).imp DR id)).lits i l hli;have e2:gl' = gl:=by cases e;rfl
      subst e2;have hat:=hcok.lits l (AE hli);obtain ⟨r2,hr21,hr22,hr23⟩:=hat.rel;have hρ2:l.1.rel<rs.length:=(AL.1 hr21).1;have hρ2I:(l.1.rel:Int)<rs.length:=(by omega);have hn3:=h.cols r2 (AE hr21);have hgB:g∉B.own:=fun q=>hgX (DR q);have kL:=AA.alloc [] wr (.cells #[.int .i64 (l.1.rel:Int),.slice (some ⟨g,0,none⟩) l.1.terms.length cc,.bool l.2] 279);have hL:=AK.new wr #[.int .i64 (l.1.rel:Int),.slice (some ⟨g,0,none⟩) l.1.terms.length cc,.bool l.2] 279;have zL:=AX wr (.cells #[.int .i64 (l.1.rel:Int),.slice (some ⟨g,0,none⟩) l.1.terms.length cc,.bool l.2] 279);have p0:=hlit.rel;have p1:=hlit.tms;have p2:=hlit.no;have htu:=((ha _ r2 hr21).tu.ext hxx h.eng.wf hE2.wf);have hbL:=hb2.keeps0 kL;have hwh:=AD (fun (W:World) (k:AA [] (wr.alloc (.cells #[.int .i64 (l.1.rel:Int),.slice (some ⟨g,0,none⟩) l.1.terms.length cc,.bool l.2] 279)) W)=>XJ (c:=cc) (ρ:=(l.1.rel:Int)) (hbL.eng.keeps0 k) (hbL.bs.keeps k) hgB ((hlit.row.keeps kL).keeps k) hat.tms (by omega) (by omega) (by rw [hr22];exact htu) (by have:=Hl.out;have:=Hn.out;have:=Hn2.out;have:=hcok.few;omega));obtain ⟨crL,hcrL,hcrsL⟩:=hbL.rel;have hrcL:=hcrsL _ r2 hr21;have hli1:c.lits.take (i+1)=c.lits.take i++[l]:=by rw [An,hli];rfl
      have Hli1:=AD hli1;have Hr22:=AD hr22;obtain ⟨⟨ρ2,tms⟩,no⟩:=l;dsimp only at hL kL zL p0 p1 p2 hbL hwh hcrL hrcL hρ2I Hli1 Hr22;generalize hWL:wr.alloc (.cells #[.int .i64 (ρ2:Int),.slice (some ⟨g,0,none⟩) tms.length cc,.bool no] 279)=WL at *;have s0:=hL.cell 0;have s1:=hL.cell 1;have s2:=hL.cell 2;have g2:=hbL.cells.cell 2;simp at s0 s1 s2 g2;have g1:WL.cell? ⟨gr,ρ2 * 5+3,none⟩=some (.int .i64 r2.tu):=by rw [hcrL.cell];exact hrcL.c3
      clear hr21 hr22 hli hli1 hlit htu hat hcrsL hrcL hcrL e;go_wp2_with fail
      refine Fc 13 (by kernel_rfl) (by kernel_rfl) ?_;simp only [CR,DW,CT,BV];repeat (go_big_quiet_step (fail))
      refine wpQuiet_nil ?_;go_wp2_with fail
      refine (hwh.out _ (AA.drew [] _)).mono ?_;rintro e W5 ⟨y,S5,rfl,hE5,k5,x5,n5,hr5⟩;cases no with
      | false=>
       obtain ⟨y6,S6,W6,hE6,k6,x6,n6,hr6,ey,ew⟩:∃ y6 S6 W6,DB W6 B S6∧AA B.own WL.drew W6∧EK S2 S6∧S6.next≤S2.next+16773132∧GW S6 y6 4 (FY rks (⟨ρ2,tms⟩,false))∧y6=y∧W6=W5:=⟨y,S5,W5,hE5,k5,x5,by omega,⟨hr5.1,fun σ=>by rw [hr5.2];rfl⟩,rfl,rfl⟩;subst ey ew;have t2:W6.cell? ⟨wr.heap.size,2,none⟩=some (.bool false):=by have:=((hL.keeps (AA.drew [] WL)).keeps k6 (hE2.sat.fresh (AQ _))).cell 2;simpa using this
       have kL6:AA B.own wr W6:=((kL.trans (AA.drew [] WL)).mono (by simp)).trans k6;have hcR6:=hcR.keeps kL6 (Hfr.out _ (by omega));have hlow:∀ q,Value.ownBlock hv=some q→yo+1+1≤q:=fun q hq=>(As hho.out q hq).1;have ho6:=AH hho.out kL6 (fun q hq=>Hfr.out q (by have:=hlow q hq;omega));have r3:=hcR6.cell 3;simp at r3;have kC:=AA.alloc [] W6 (.cells #[.int .i64 y6] 3);have hoC:=AH ho6 kC;have hszC:yo+1+1≤(W6.alloc (.cells #[.int .i64 y6] 3)).heap.size:=by rw [AX];have:=kL6.size;have:=hk2.size;omega
       have hone:=Ik (W:=W6) (y:=y6);clear hwh s0 s1 s2 g1 g2 p0 p1 p2 hWL;go_wp2_with (at_builtin;refine wpList_append_own_at _ rfl _ _ 40 rfl (yo+1+1) 3 i0 (.int .i64 0) 1 8 underlying40 hi0 hz0 hz1 hz2 rfl (by decide) _ i (ints hs) rfl hoC ⟨W6.heap.size,0,none⟩ 1 1 (ints [y6]) rfl (by simp [ints]) hone (FP _) (by unfold maxLen;omega) (by omega) hszC ?_)
       intro v7 W7 hown7 hgrow7 hnil7 hat7;obtain ⟨g7,c7,hv7⟩:=EL hown7;subst hv7;have k7:=grownBy_keeps' hgrow7 (Value.ownBlock hv).toList (fun q e=>.inl (by simp [e]));have hT7:∀ q∈(Value.ownBlock hv).toList,yo+1+1≤q:=fun q hq=>hlow q (by simpa using hq);have hcR7:=(hcR6.keeps kC).keeps k7 (fun hm=>by have:=hT7 _ hm;omega);have hE7:=(hE6.keeps0 kC).keeps k7 (fun q hq hm=>Hfr.out q (by have:=hT7 _ hm;omega) hq);have r37:=hcR7.cell 3;have f37:=hcR7.frozen 3;simp at r37;have hcS:=hcR7.setCell 3 (.slice (some ⟨g7,0,none⟩) (i+1) c7);have kS:=AA.setCell W7 ⟨yo+1,3,none⟩ (.slice (some ⟨g7,0,none⟩) (i+1) c7);have hES:=hE7.keeps kS (fun q hq hm=>Hfr.out q (by simp only [AF] at hm;omega) hq);have hoS:=AH hown7 kS (fun q hq hm=>by simp only [AF] at hm;have:=(As hown7 q hq).1;omega);have HoS:=AD hoS;have HcS:=AD hcS;have kF:AA ((yo+1) :: B.own) WI (W7.setCell ⟨yo+1,3,none⟩ (.slice (some ⟨g7,0,none⟩) (i+1) c7)):=(((hk2.trans (kL6.mono (fun q hq=>AP _ hq))).trans (kC.mono (by simp))).trans_new k7 (fun q hq=>.inr (by have:=hT7 q hq;omega))).trans (kS.mono (by simp));have Hn6:=AD n6;clear n6 hown7 hgrow7 hnil7 hat7 hone hszC hoC ho6 r3 hoS hcS hcR6;go_wp2_with fail
       go_roundw
       ·refine ⟨i+1,hs++[y6],S6,_,by simp,by omega,by simpa using HcS.out,AD ?_,hES,kF,hx2.trans x6,by have:=Hn2.out;have:=Hn6.out;push_cast;omega,?_⟩
        ·have:=HoS.out;simpa [ints] using this
        ·rw [Hli1.out,Am];exact (hH2.ext x6 hE2.wf hE6.wf).snoc hr6
       ·simp only [intOf];omega
      | true=>
       have t2:W5.cell? ⟨wr.heap.size,2,none⟩=some (.bool true):=by have:=((hL.keeps (AA.drew [] WL)).keeps k5 (hE2.sat.fresh (AQ _))).cell 2;simpa using this
       have g4:=((hbL.bs.keeps (AA.drew [] WL)).own k5).cell;have hnt:=AD (not_E hE5 hr5 (by have:=Hl.out;have:=Hn.out;have:=Hn2.out;have:=hcok.few;omega));go_wp2_with fail
       refine hnt.out.mono ?_;rintro e W6 ⟨y6,S6,rfl,hE6,k6',x6',n6',hr6'⟩;have k6:=k5.trans k6';have x6:=x5.trans x6';have n6:S6.next≤S2.next+16773132:=(by omega);have hr6:GW S6 y6 4 (FY rks (⟨ρ2,tms⟩,true)):=⟨hr6'.1,fun σ=>by rw [hr6'.2];rfl⟩;clear n6' hnt t2 g4;have kL6:AA B.own wr W6:=((kL.trans (AA.drew [] WL)).mono (by simp)).trans k6;have hcR6:=hcR.keeps kL6 (Hfr.out _ (by omega));have hlow:∀ q,Value.ownBlock hv=some q→yo+1+1≤q:=fun q hq=>(As hho.out q hq).1;have ho6:=AH hho.out kL6 (fun q hq=>Hfr.out q (by have:=hlow q hq;omega));have r3:=hcR6.cell 3;simp at r3;have kC:=AA.alloc [] W6 (.cells #[.int .i64 y6] 3);have hoC:=AH ho6 kC;have hszC:yo+1+1≤(W6.alloc (.cells #[.int .i64 y6] 3)).heap.size:=by rw [AX];have:=kL6.size;have:=hk2.size;omega
       have hone:=Ik (W:=W6) (y:=y6);clear hwh s0 s1 s2 g1 g2 p0 p1 p2 hWL;go_wp2_with (at_builtin;refine wpList_append_own_at _ rfl _ _ 40 rfl (yo+1+1) 3 i0 (.int .i64 0) 1 8 underlying40 hi0 hz0 hz1 hz2 rfl (by decide) _ i (ints hs) rfl hoC ⟨W6.heap.size,0,none⟩ 1 1 (ints [y6]) rfl (by simp [ints]) hone (FP _) (by unfold maxLen;omega) (by omega) hszC ?_)
       intro v7 W7 hown7 hgrow7 hnil7 hat7;obtain ⟨g7,c7,hv7⟩:=EL hown7;subst hv7;have k7:=grownBy_keeps' hgrow7 (Value.ownBlock hv).toList (fun q e=>.inl (by simp [e]));have hT7:∀ q∈(Value.ownBlock hv).toList,yo+1+1≤q:=fun q hq=>hlow q (by simpa using hq);have hcR7:=(hcR6.keeps kC).keeps k7 (fun hm=>by have:=hT7 _ hm;omega);have hE7:=(hE6.keeps0 kC).keeps k7 (fun q hq hm=>Hfr.out q (by have:=hT7 _ hm;omega) hq);have r37:=hcR7.cell 3;have f37:=hcR7.frozen 3;simp at r37;have hcS:=hcR7.setCell 3 (.slice (some ⟨g7,0,none⟩) (i+1) c7);have kS:=AA.setCell W7 ⟨yo+1,3,none⟩ (.slice (some ⟨g7,0,none⟩) (i+1) c7);have hES:=hE7.keeps kS (fun q hq hm=>Hfr.out q (by simp only [AF] at hm;omega) hq);have hoS:=AH hown7 kS (fun q hq hm=>by simp only [AF] at hm;have:=(As hown7 q hq).1;omega);have HoS:=AD hoS;have HcS:=AD hcS;have kF:AA ((yo+1) :: B.own) WI (W7.setCell ⟨yo+1,3,none⟩ (.slice (some ⟨g7,0,none⟩) (i+1) c7)):=(((hk2.trans (kL6.mono (fun q hq=>AP _ hq))).trans (kC.mono (by simp))).trans_new k7 (fun q hq=>.inr (by have:=hT7 q hq;omega))).trans (kS.mono (by simp));have Hn6:=AD n6;clear n6 hown7 hgrow7 hnil7 hat7 hone hszC hoC ho6 r3 hoS hcS hcR6;go_wp2_with fail
       go_roundw
       ·refine ⟨i+1,hs++[y6],S6,_,by simp,by omega,by simpa using HcS.out,AD ?_,hES,kF,hx2.trans x6,by have:=Hn2.out;have:=Hn6.out;push_cast;omega,?_⟩
        ·have:=HoS.out;simpa [ints] using this
        ·rw [Hli1.out,Am];exact (hH2.ext x6 hE2.wf hE6.wf).snoc hr6
       ·simp only [intOf];omega
     ·have hiI:¬ (i:Int)<c.lits.length:=(by omega);have e:i=c.lits.length:=(by omega);subst e;rw [Bp] at hH2;have hhl:hs.length=c.lits.length:=(by rw [hH2.1,AY]);rw [←hhl] at hho;obtain ⟨gh,ch,hv',hgh,hhr,_⟩:=Ke hho.out (by omega);subst hv';have hul:us.length≤52:=by
       have:=congrArg List.length hus.out;rw [AY] at this;have h2:=Bl (FI rs lay) (ks.take j);rw [BH] at h2;omega
      have hT2:∀ q∈(yo+1) :: B.own,q<w.heap.size∨wo.heap.size≤q:=fun q hq=>by
       rcases AG.1 hq with rfl | hq
       ·exact .inr (by omega)
       ·exact .inl (hown q hq)
      have hb3:=(hbg.keeps (kI.mono (T':=(yo+1) :: B.own) (by simp) |>.trans hk2) hT2 hx2 hE.wf hE2.wf);have hold:∀ u∈us,u.gh<yo:=fun u hu=>by have:=(hbg.hld u hu).1.lt;omega
      have hown5:∀ q,Value.ownBlock u5=some q→q<yo:=fun q hq=>by have:=(World.ownsRow.lt hbg.row q hq).2;omega
      obtain ⟨ai,hai0,haz0,haz1,haz2⟩:=info_parts iT;have kC:=AA.alloc [] wr (.cells #[.int .i64 (c.head.rel:Int),.slice (some ⟨gt,0,none⟩) c.head.terms.length tc,.slice (some ⟨gl,0,none⟩) c.lits.length lc,.slice (some ⟨gh,0,none⟩) hs.length ch] 295);have hoC:=AH hb3.row kC;have hszC:w.heap.size≤(wr.alloc (.cells #[.int .i64 (c.head.rel:Int),.slice (some ⟨gt,0,none⟩) c.head.terms.length tc,.slice (some ⟨gl,0,none⟩) c.lits.length lc,.slice (some ⟨gh,0,none⟩) hs.length ch] 295)).heap.size:=by rw [AX];have:=kW.size;omega
      have hfc:=Uk (W:=wr) (a:=.int .i64 (c.head.rel:Int)) (b:=.slice (some ⟨gt,0,none⟩) c.head.terms.length tc) (c:=.slice (some ⟨gl,0,none⟩) c.lits.length lc) (d:=.slice (some ⟨gh,0,none⟩) hs.length ch) (t:=295);have b0:=hcR.cell 0;have b1:=hcR.cell 1;have b2:=hcR.cell 2;have b3:=hcR.cell 3;simp at b0 b1 b2 b3;have Hhl:=AD hhl;clear hhl;go_wp2_with (at_builtin;refine wpList_append_own_at _ rfl _ _ 289 rfl w.heap.size 295 ai (.agg #[.int .i64 0,.slice none 0 0,.slice none 0 0,.slice none 0 0]) 4 80 underlying289 hai0 haz0 haz1 haz2 rfl (by decide) _ us.length (Rc us) rfl hoC ⟨wr.heap.size,0,none⟩ 1 1 [.int .i64 (c.head.rel:Int),.slice (some ⟨gt,0,none⟩) c.head.terms.length tc,.slice (some ⟨gl,0,none⟩) c.lits.length lc,.slice (some ⟨gh,0,none⟩) hs.length ch] rfl rfl hfc (by intro u hu;simp at hu;rcases hu with rfl | rfl | rfl | rfl <;> rfl) (by unfold maxLen;omega) (by omega) hszC ?_)
      intro v9 W9 hown9 hgrow9 hnil9 hat9;obtain ⟨g9,c9,hv9⟩:=EL hown9;subst hv9;have k9:=grownBy_keeps' hgrow9 (Value.ownBlock u5).toList (fun q e=>.inl (by simp [e]));have hT9:∀ q∈(Value.ownBlock u5).toList,q<yo∧w.heap.size≤q:=fun q hq=>by
       have h1:Value.ownBlock u5=some q:=(by simpa using hq);exact ⟨hown5 q h1,(As hbg.row q h1).1⟩
      have hwrs:=hk2.size;have hg9:g9<yo∨g9=wr.heap.size+1:=by
       rcases hat9 with e | e
       ·exact .inl (hown5 g9 (by rw [←e];rfl))
       ·right;have:some g9=some (wr.heap.size+1):=e;exact Ar this
      have hg9u:∀ u∈us,g9≠u.gh:=fun u hu=>by
       rcases hat9 with e | e
       ·exact (hbg.hld u hu).2.2.2.2 g9 (by rw [←e];rfl)
       ·have h1:some g9=some (wr.heap.size+1):=e;have h2:=Ar h1;have:=hold u hu;omega
      have hE9:=(hE2.keeps0 kC).keeps k9 (fun q hq hm=>Hfr.out q (hT9 q hm).2 hq);have kF:AA B.own w W9:=((kW.drop (by omega)).trans (kC.mono (by simp))).trans_new k9 (fun q hq=>.inr (hT9 q hq).2);have hhr9:=(hhr.keepsE kC).keepsE k9 (fun hm=>by have:=(hT9 _ hm).1;omega);have hB9:LF W9 w.heap.size S2 rks (.slice (some ⟨g9,0,none⟩) (us.length+1) c9) (us++[{ c:=c,gt:=gt,tc:=tc,la:=some ⟨gl,0,none⟩,lc:=lc,lt:=lt,gh:=gh,ch:=ch,hs:=hs }]):=by
       refine ⟨?_,fun u hu=>?_,?_⟩
       ·rw [Ye,AJ];exact hown9
       ·rcases AC.1 hu with hu | hu
        ·obtain ⟨e1,e2,e3,e4,_⟩:=hb3.hld u hu;refine ⟨(e1.keepsE kC).keepsE k9 (fun hm=>(hbg.hld u hu).2.2.2.2 _ (by simpa using hm) rfl),e2,e3,e4,fun q hq=>?_⟩;have h1:some g9=some q:=hq;cases h1;exact hg9u u hu
        ·simp only [AF] at hu;subst hu;refine ⟨hhr9,by show w.heap.size≤gh;omega,Hhl.out,hH2,fun q hq=>?_⟩;have h1:some g9=some q:=hq;cases h1;show g9≠gh;have:=hhr.lt;omega
       ·rw [Am,BJ];refine ⟨hbg.nodup,by simp,fun a ha' b hb'=>?_⟩;simp only [Au,Dc,AF] at hb';obtain ⟨u,hu,rfl⟩:=AM.1 ha';have:=hold u hu;intro e;have e2:u.gh=gh:=e.trans hb';omega
      have HB9:=AD hB9;clear hB9 hown9 hgrow9 hnil9 hat9 hoC hfc b0 b1 b2 b3 hb3 hcR hho hhr hhr9 hg9 hg9u hT9;go_wp2_with fail
      go_roundw
      ·exact ⟨j+1,us++[{ c:=c,gt:=gt,tc:=tc,la:=some ⟨gl,0,none⟩,lc:=lc,lt:=lt,gh:=gh,ch:=ch,hs:=hs }],S2,by simp,by omega,HB9.out,AD (Hf.out _ rfl),hE9,kF,hxx,by have:=Hn.out;have:=Hn2.out;have:=hcok.few;push_cast;omega⟩
      ·simp only [intOf];omega
   ·have hne:((r.layer:Int) != (lay:Int))=true:=by simp;omega
    have Hf:=AD (show us.map (·.toCluX)=(ks.take (j+1)).filter (FI rs lay) from by
     have e:FI rs lay ⟨c,gt,tc,some ⟨gl,0,none⟩,lc,lt⟩=false:=by unfold FI;rw [Hlo.out];simpa using hly
     rw [htlk.out,List.filter_append,hus.out]
     simp [e])
    go_wp2_with fail
    go_quiet (fail)
    go_wp2_with fail
    go_roundw
    ·exact ⟨j+1,us,S1,by simp,by omega,(hbg.keeps kA (by simp) (EK.refl S1) hE.wf hE.wf).keeps (AA.drewN [] _ _) (by simp) (EK.refl S1) hE.wf hE.wf,Hf,(hE.keeps0 kA).keeps0 (AA.drewN [] _ _),hk.trans ((kA.trans (AA.drewN [] _ _)).mono (by simp)),hx,by have:=Hn.out;push_cast;omega⟩
    ·simp only [intOf];omega
  ·have hjI:¬ (j:Int)<ks.length:=(by omega);have e:j=ks.length:=(by omega);subst e;rw [Bp] at hus;go_wp2_with fail
   go_ret
   exact ⟨_,us,S1,rfl,hbg,hus.out,hE,hk,hx,by have:=Hn.out;omega⟩
def FJ (Xf:Nat→List Nat→Prop) (l:BW×Bool) (ν:List Nat):Prop:=Xf l.1.rel (l.1.terms.map (Ia ν))
def lE (Hs Cs:List (List Nat→Prop)) (i k:Nat) (ν:List Nat):Prop:=(∃ H,Hs[k]?=some H∧H ν)∨(k<i∧∃ C,Cs[k]?=some C∧C ν)
def Gb (Hs Cs:List (List Nat→Prop)) (i:Nat):List (List Nat→Prop):=(List.range Hs.length).map (lE Hs Cs i)
theorem Xe {Hs Cs:List (List Nat→Prop)} {i k:Nat} {H:List Nat→Prop} (h:(Gb Hs Cs i)[k]?=some H):k<Hs.length∧H=lE Hs Cs i k:=by
 have hk:k<Hs.length:=by have:=(AL.1 h).1;simpa [Gb] using this
 simp only [Gb,AW,CS hk,A5,BD] at h;exact ⟨hk,h.symm⟩
theorem JU.orZero {S:ST} {hs:List Int} {Hs Cs:List (List Nat→Prop)} (h:JU S hs Hs):JU S hs (Gb Hs Cs 0):=⟨by rw [h.1];simp [Gb],fun k y H h1 h2=>by
 obtain ⟨hk,rfl⟩:=Xe h2;have e:=AB hk;refine (h.2 k y _ h1 e).iff fun ν _=>?_;unfold lE
 exact ⟨fun q=>.inl ⟨_,e,q⟩,fun q=>by
  rcases q with ⟨G,hG,q⟩ | ⟨q,_⟩
  ·rw [e] at hG;cases hG;exact q
  ·omega⟩⟩
theorem JU.orStep {S:ST} {hs:List Int} {Hs Cs:List (List Nat→Prop)} {i:Nat} {C:List Nat→Prop} {t:Int} (h:JU S hs (Gb Hs Cs i)) (hC:Cs[i]?=some C) (hi:i<hs.length) (ht:∀ H,(Gb Hs Cs i)[i]?=some H→GW S t 4 (fun ν=>H ν∨C ν)):JU S (hs.set i t) (Gb Hs Cs (i+1)):=by
 refine ⟨by rw [BI,h.1];simp [Gb],fun k y H h1 h2=>?_⟩;obtain ⟨hk,rfl⟩:=Xe h2;have ek:(Gb Hs Cs i)[k]?=some (lE Hs Cs i k):=by simp [Gb,hk]
 rw [Aw] at h1;by_cases e:i=k
 ·subst e;rw [if_pos rfl,if_pos hi] at h1;cases h1;refine (ht _ ek).iff fun ν _=>?_;unfold lE;constructor
  ·rintro ((q | ⟨q,_⟩) | q)
   ·exact .inl q
   ·omega
   ·exact .inr ⟨by omega,C,hC,q⟩
  ·rintro (q | ⟨_,G,hG,q⟩)
   ·exact .inl (.inl q)
   ·rw [hC] at hG;cases hG;exact .inr q
 ·rw [if_neg e] at h1;refine (h.2 k y _ h1 ek).iff fun ν _=>?_;unfold lE;have:k<i+1↔k<i:=by omega
  rw [this]
theorem FS.setH {w w':World} {X T:List Nat} {gu:Nat} {us:List GV} (h:FS w X gu us) {p:Nat} {u:GV} (hp:us[p]?=some u) {hs:List Int} (hl:hs.length=u.hs.length) (k:AA (u.gh :: T) w w') (hT:∀ j∈T,j∈X∨w.heap.size≤j) (hr:B8 w' u.gh hs):FS w' X gu (us.set p { u with hs:=hs }):=by
 have hu:=AE hp;have hpl:=(AL.1 hp).1;have hmap:(us.set p { u with hs:=hs }).map (·.gh)=us.map (·.gh):=by
  apply Bj;intro j;rw [AW,AW,Aw];by_cases e:p=j
  ·subst e;rw [if_pos rfl,if_pos hpl,hp];rfl
  ·rw [if_neg e]
 have hmem:∀ x∈us.set p { u with hs:=hs },x={ u with hs:=hs }∨x∈us:=fun x hx=>by
  obtain ⟨j,hj,rfl⟩:=A0 hx;rw [List.getElem_set];split
  ·exact .inl rfl
  ·exact .inr (CC _)
 have hT2:∀ j∈u.gh :: T,j∈us.map (·.gh)++X∨w.heap.size≤j:=fun j hj=>by
  rcases AG.1 hj with rfl | hj
  ·exact .inl (AC.2 (.inl (AM.2 ⟨u,hu,rfl⟩)))
  ·exact (hT j hj).imp (fun q=>AC.2 (.inr q)) id
 have ne:∀ {j},j≠u.gh→j∉X→j<w.heap.size→j∉u.gh :: T:=fun h0 h1 h2=>By h0 (fun hm=>(hT _ hm).elim h1 (fun q=>by omega));refine ⟨fun h0=>?_,fun h0=>?_,fun x hx=>?_,fun x hx=>?_,by rw [hmap];exact h.nodup⟩
 ·rw [BI] at h0;obtain ⟨cs,h1,h2⟩:=h.cells h0;refine ⟨cs,h1.keeps k (ne ((h.guX h0).2 u hu) (h.guX h0).1 h1.lt),fun j x hj=>?_⟩;rw [Aw] at hj;by_cases e:p=j
  ·subst e;rw [if_pos rfl,if_pos hpl] at hj;cases hj;have c:=h2 p u hp;exact ⟨c.c0,c.c1,c.c2,by rw [c.c3];show _=some (Value.slice _ hs.length _);rw [hl]⟩
  ·rw [if_neg e] at hj;exact h2 j x hj
 ·rw [BI] at h0;refine ⟨(h.guX h0).1,fun x hx=>?_⟩;rcases hmem x hx with rfl | hx
  ·exact (h.guX h0).2 u hu
  ·exact (h.guX h0).2 x hx
 ·rw [hmap];rcases hmem x hx with rfl | hx
  ·exact (h.clu u hu).keeps k hT2
  ·exact (h.clu x hx).keeps k hT2
 ·obtain ⟨j,hj,rfl⟩:=A0 hx;rw [List.getElem_set];split
  ·exact ⟨hr,(h.hld u hu).2.1,by rw [hl];exact (h.hld u hu).2.2⟩
  ·rename_i hne;rw [BI] at hj;obtain ⟨h1,h2,h3⟩:=h.hld _ (CC hj);refine ⟨h1.keepsE k (ne (fun e=>hne ?_) h2 h1.lt),h2,h3⟩;have e1:(us.map (·.gh))[p]?=some u.gh:=by rw [AW,hp];rfl
   have e2:(us.map (·.gh))[j]?=some u.gh:=by rw [AW,AB hj,←e];rfl
   exact (List.getElem?_inj (by simpa using hpl) h.nodup).1 (e1.trans e2.symm)
def JG (us:List GV) (HS:Nat→List (List Nat→Prop)) (Xf:Nat→List Nat→Prop) (j m i:Nat) (l:List Nat):Prop:=
 ∃ p u k a,(p<j∨(p=j∧k<m))∧us[p]?=some u∧u.c.head.rel=i∧u.c.lits[k]?=some a∧brings u.c.head.terms (fun ν=>FJ Xf a ν∧M1 (Gb (HS p) (u.c.lits.map (FJ Xf)) u.c.lits.length) u.c.lits.length ν) l
theorem T6 {us:List GV} {HS:Nat→List (List Nat→Prop)} {Xf:Nat→List Nat→Prop} {j m:Nat} {u:GV} {a:BW×Bool} (hu:us[j]?=some u) (ha:u.c.lits[m]?=some a) (i:Nat) (l:List Nat):nG (JG us HS Xf j m) u.c.head.rel (brings u.c.head.terms (fun ν=>FJ Xf a ν∧M1 (Gb (HS j) (u.c.lits.map (FJ Xf)) u.c.lits.length) u.c.lits.length ν)) i l↔JG us HS Xf j (m+1) i l:=by
 unfold nG;constructor
 ·split
  ·rename_i e;subst e;rintro (⟨p,v,k,b,h1,h2,h3,h4,h5⟩ | q)
   ·exact ⟨p,v,k,b,by omega,h2,h3,h4,h5⟩
   ·exact ⟨j,u,m,a,by omega,hu,rfl,ha,q⟩
  ·rintro ⟨p,v,k,b,h1,h2,h3,h4,h5⟩;exact ⟨p,v,k,b,by omega,h2,h3,h4,h5⟩
 ·rintro ⟨p,v,k,b,h1,h2,h3,h4,h5⟩;by_cases e:p<j∨(p=j∧k<m)
  ·split
   ·rename_i e2;subst e2;exact .inl ⟨p,v,k,b,e,h2,h3,h4,h5⟩
   ·exact ⟨p,v,k,b,e,h2,h3,h4,h5⟩
  ·have e1:p=j:=(by omega);have e2:k=m:=(by omega);subst e1 e2;rw [hu] at h2;cases h2;rw [ha] at h4;cases h4;rw [if_pos h3.symm];exact .inr h5
theorem T7 {us:List GV} {HS:Nat→List (List Nat→Prop)} {Xf:Nat→List Nat→Prop} {j:Nat} {u:GV} (hu:us[j]?=some u) (i:Nat) (l:List Nat):JG us HS Xf j u.c.lits.length i l↔JG us HS Xf (j+1) 0 i l:=by
 constructor
 ·rintro ⟨p,v,k,b,h1,h2⟩;exact ⟨p,v,k,b,by omega,h2⟩
 ·rintro ⟨p,v,k,b,h1,h2,h3,h4,h5⟩;refine ⟨p,v,k,b,?_,h2,h3,h4,h5⟩;by_cases e:p<j
  ·exact .inl e
  ·have e1:p=j:=(by omega);subst e1;rw [hu] at h2;cases h2;exact .inr ⟨rfl,(AL.1 h4).1⟩
def fM (w:World) (xs:List Int) (e:Ending) (w':World):Prop:=∃ v,e=.returned v∧w'.ownsRow w.heap.size 3 1 v xs.length (ints xs)∧AA [] w w'
theorem Sd {w:World} {g cap:Nat} {xs:List Int} (h:B8 w g xs) (hl:xs.length≤1000000000) :
  Calls prog 220 #[.slice (some ⟨g,0,none⟩) xs.length cap] w (fM w xs):=by
 obtain ⟨i0,hi,hz0,hz1,hz2⟩:=info_parts MD;have heq:=fun (w:World) (n c:Nat)=>Lib.run_eql_slice_nil (P:=prog) w 40 3 (some ⟨g,0,none⟩) n c 0 0 underlying40;have hk0:=AA.alloc [] w (.cells #[] 3)
 have hown:(w.alloc (.cells #[] 3)).ownsRow w.heap.size 3 1 (.slice (some ⟨w.heap.size,0,none⟩) 0 0) 0 []:=
  ⟨rfl,.inr ⟨w.heap.size,0,#[],rfl,AQ _,(MapKept.heap_alloc w _).1,AQ _,Nat.zero_le _,rfl,rfl⟩⟩
 have hcell:∀ (j:Nat) (u:Value),(ints xs)[j]?=some u→(w.alloc (.cells #[] 3)).cell? ((⟨g,0,none⟩:Addr).add j)=some u:=by
  intro j u hu;obtain ⟨x,hx,rfl⟩:=MC xs j u hu;rw [Addr.add_lit,Ag];exact (h.of_heap (hk0.block g h.lt (by simp))).cell hx
 go_in
 go_wp2_with (at_builtin;refine wpList_append_own _ rfl _ _ 40 rfl w.heap.size 3 i0 (.int .i64 0) 1 8 underlying40 hi hz0 hz1 hz2 rfl (by decide) _ 0 [] rfl hown ⟨g,0,none⟩ xs.length cap (ints xs) rfl (by simp [ints]) hcell (FP xs) (by unfold maxLen;omega) (by omega) (by simp) ?_)
 intro v w1 h1 h2 h3;have H1:=AD h1;clear h1 h3;go_wp2
 go_ret
 refine ⟨v,rfl,by simpa using H1.out,hk0.trans_new (grownBy_keeps' h2 [w.heap.size] (fun r e=>?_)) (fun i hi=>?_)⟩
 ·simp only [Value.ownBlock,BD] at e;exact .inl (by simp [e])
 ·simp only [AF] at hi;exact .inr (by omega)
theorem Ws (w:World):Calls prog 220 #[.slice none 0 0] w (fM w []):=by
 have heq:=fun (w:World)=>Lib.run_eql_slice_nil (P:=prog) w 40 3 none 0 0 0 0 underlying40;go_in
 go_wp2
 go_ret
 exact ⟨_,rfl,⟨rfl,.inl ⟨rfl,rfl⟩⟩,AA.refl _ _⟩
theorem VT {W:World} {y z:Int}:∀ (j:Nat) (x:Value),(ints [y,z])[j]?=some x→(W.alloc (.cells #[.int .i64 y,.int .i64 z] 3)).cell? ((⟨W.heap.size,0,none⟩:Addr).add j)=some x:=by
 intro j x hx;rw [Addr.add_lit,Ag,(AK.new W #[.int .i64 y,.int .i64 z] 3).cell];match j with
 | 0=>simpa [ints] using hx
 | 1=>simpa [ints] using hx
 | n+2=>simp [ints] at hx
def Fo (rs:List BF):List Int:=rs.flatMap (fun r=>[r.fa,r.tu])
def FW (us:List GV):List Int:=us.flatMap (fun u=>u.hs)
theorem Tf (rs:List BF) (r:BF):Fo (rs++[r])=Fo rs++[r.fa,r.tu]:=by simp [Fo]
theorem Te (us:List GV) (u:GV):FW (us++[u])=FW us++u.hs:=by simp [FW]
theorem IP (rs:List BF):(Fo rs).length=rs.length * 2:=by
 induction rs with
 | nil=>rfl
 | cons r rs ih=>simp only [Fo,A6,AJ,AU,Ao] at ih ⊢;omega
theorem Pw {us:List GV} (h:∀ u∈us,u.hs.length≤4):(FW us).length≤us.length * 4:=by
 induction us with
 | nil=>simp [FW]
 | cons r rs ih=>
  have h1:=ih (fun u hu=>h u (AP _ hu));have h2:=h r (C2 ..);simp only [FW,A6,AJ,AU] at h1 ⊢;omega
def SwpTo (B:SB) (w:World) (S:ST) (roots:List Int) (e:Ending) (w':World):Prop:=
 e=.returned (.tuple #[])∧∃ S',DB w' B S'∧AA B.own w w'∧S'.next=S.next∧∀ (f:Int) (c:Nat) (R:List Nat→Prop),f∈roots→GW S f c R→GW S' f c R
theorem IE.rep {S S':ST} {roots:List Int} (h:IE S S' roots) (hw:WF S) (hr:Fz S roots) {f:Int} {c:Nat} {R:List Nat→Prop} (hf:f∈roots) (hR:GW S f c R):GW S' f c R:=by
 have hk:=h.ok_root hr hf;exact ⟨hk,fun σ=>by rw [h.den hw hk];exact hR.2 σ⟩
theorem Lu {w:World} {bb gr cr:Nat} {B:SB} {S:ST} {rs:List BF} {x0 x1 x3:Value} (h:F9 w bb B S gr cr rs x0 x1 x3) {X:List Nat} {gu uc:Nat} {ua:Option Addr} {us:List GV} (hua:0<us.length→ua=some ⟨gu,0,none⟩) (hu:FS w X gu us) (h4:∀ u∈us,u.hs.length≤4) (h52:us.length≤52) {fv:Value} {fs:List Int} (hfs:fs.length≤6) (hcl:Calls prog 220 #[fv] w (fM w fs)) (h0:0<rs.length) (hr:Fz S (fs++Fo rs++FW us)) :
  Calls prog 151 #[.pointer (some ⟨bb,0,none⟩),.slice ua us.length uc,fv] w (SwpTo B w S (fs++Fo rs++FW us)):=by
 have h6:=h.few;obtain ⟨i0,hi0,hz0,hz1,hz2⟩:=info_parts MD;have Hcl:=AD hcl;have Hr:=AD hr;clear hcl hr;go_in
 go_wp2_with fail
 refine Hcl.out.mono ?_;rintro e W1 ⟨v1,rfl,ho1,k1⟩;have hb1:=h.keeps0 k1;have g2:=hb1.cells.cell 2;simp at g2;have Ho1:=AD ho1;clear ho1;go_wp2_with fail
 go_loopw [6,18] (fun x y wr=>∃ (j:Nat) (xs:List Int),y=.int .i64 j∧j≤rs.length∧Hid (wr.ownsRow w.heap.size 3 1 x xs.length (ints xs))∧Hid (xs=fs++Fo (rs.take j))∧AA [] w wr) (fun _ y _=>((rs.length:Int) - intOf y).toNat)
 case atStart=>exact ⟨0,fs,rfl,by omega,Ho1,AD (by simp [Fo]),k1⟩
 case round=>
  obtain ⟨j,xs,rfl,hj,hho,hxs,hk⟩:=hrel;have hbr:=h.keeps0 hk;have hxl:xs.length≤18:=by rw [hxs.out,AJ,IP,BH];omega
  have hlow:∀ q,Value.ownBlock u6=some q→w.heap.size≤q:=fun q hq=>(As hho.out q hq).1;by_cases hjl:j<rs.length
  ·have hjI:(j:Int)<rs.length:=(by omega);obtain ⟨r,hrj⟩:∃ r,rs[j]?=some r:=⟨_,AB hjl⟩;obtain ⟨cs,hc,hcs⟩:=hbr.rel;have hc5:=hcs j r hrj;have q0:wr.cell? ⟨gr,j * 5,none⟩=some (.slice r.sa r.n r.cc):=by rw [hc.cell];exact hc5.c0
   have q1:wr.cell? ⟨gr,j * 5+1,none⟩=some (.int .i64 (r.layer:Int)):=by rw [hc.cell];exact hc5.c1
   have q2:wr.cell? ⟨gr,j * 5+2,none⟩=some (.int .i64 r.fa):=by rw [hc.cell];exact hc5.c2
   have q3:wr.cell? ⟨gr,j * 5+3,none⟩=some (.int .i64 r.tu):=by rw [hc.cell];exact hc5.c3
   have q4:wr.cell? ⟨gr,j * 5+4,none⟩=some (.map (some r.rm)):=by rw [hc.cell];exact hc5.c4
   have kA:=AA.alloc [] wr (.cells #[.slice r.sa r.n r.cc,.int .i64 (r.layer:Int),.int .i64 r.fa,.int .i64 r.tu,.map (some r.rm)] 148);have hA:=AK.new wr #[.slice r.sa r.n r.cc,.int .i64 (r.layer:Int),.int .i64 r.fa,.int .i64 r.tu,.map (some r.rm)] 148;have zA:=AX wr (.cells #[.slice r.sa r.n r.cc,.int .i64 (r.layer:Int),.int .i64 r.fa,.int .i64 r.tu,.map (some r.rm)] 148);generalize hWA:wr.alloc (.cells #[.slice r.sa r.n r.cc,.int .i64 (r.layer:Int),.int .i64 r.fa,.int .i64 r.tu,.map (some r.rm)] 148)=WA at *;have d2:=hA.cell 2;have d3:=hA.cell 3;simp at d2 d3;have kC:=AA.alloc [] WA (.cells #[.int .i64 r.fa,.int .i64 r.tu] 3);have kAC:=kA.trans kC;have hoC:=AH hho.out kAC;have hszC:w.heap.size≤(WA.alloc (.cells #[.int .i64 r.fa,.int .i64 r.tu] 3)).heap.size:=by rw [AX];have:=hk.size;omega
   have htwo:=VT (W:=WA) (y:=r.fa) (z:=r.tu);rw [zA] at htwo;have Htk:=AD (show rs.take (j+1)=rs.take j++[r] by rw [An,hrj];rfl);clear hrj hcs hc5 hc;go_wp2_with (at_builtin;refine wpList_append_own_at _ rfl _ _ 40 rfl w.heap.size 3 i0 (.int .i64 0) 1 8 underlying40 hi0 hz0 hz1 hz2 rfl (by decide) _ xs.length (ints xs) rfl hoC ⟨wr.heap.size+1,0,none⟩ 2 2 (ints [r.fa,r.tu]) rfl (by simp [ints]) htwo (FP _) (by unfold maxLen;omega) (by omega) hszC ?_)
   intro v7 W7 hown7 hgrow7 hnil7 hat7;have k7:=grownBy_keeps' hgrow7 (Value.ownBlock u6).toList (fun q e=>.inl (by simp [e]));have kF:AA [] w W7:=(hk.trans kAC).trans_new k7 (fun q hq=>.inr (hlow q (by simpa using hq)));have HoS:=AD hown7;clear hown7 hgrow7 hnil7 hat7 htwo hszC hoC d2 d3 q0 q1 q2 q3 q4 hWA;go_wp2_with fail
   go_roundw
   ·refine ⟨j+1,xs++[r.fa,r.tu],by simp,by omega,AD ?_,AD ?_,kF⟩
    ·have:=HoS.out;simpa [ints] using this
    ·rw [Htk.out,Tf,hxs.out,Ab]
   ·simp only [intOf];omega
  ·have hjI:¬ (j:Int)<rs.length:=(by omega);have e:j=rs.length:=(by omega);subst e;rw [Bp] at hxs;have k2:=hk;have ho2:=hho;have hx2:=hxs;clear g2 hb1 Ho1 k1;go_wp2_with fail
   clear hk hho hxs hbr hxl hlow;go_loopw [6,32] (fun x y wr=>∃ (j:Nat) (xs:List Int),y=.int .i64 j∧j≤us.length∧Hid (wr.ownsRow w.heap.size 3 1 x xs.length (ints xs))∧Hid (xs=fs++Fo rs++FW (us.take j))∧AA [] w wr) (fun _ y _=>((us.length:Int) - intOf y).toNat)
   case atStart=>exact ⟨0,xs,rfl,by omega,ho2,AD (by rw [hx2.out];simp [FW]),k2⟩
   case round=>
    obtain ⟨j,xs,rfl,hj,hho,hxs,hk⟩:=hrel;have hbr:=h.keeps0 hk;have hxl:xs.length≤226:=by
     have:=Pw (us:=us.take j) (fun u hu=>h4 u (List.mem_of_mem_take hu));rw [BH] at this;rw [hxs.out,AJ,AJ,IP];omega
    have hlow:∀ q,Value.ownBlock u6=some q→w.heap.size≤q:=fun q hq=>(As hho.out q hq).1;by_cases hjl:j<us.length
    ·have hjI:(j:Int)<us.length:=(by omega);obtain ⟨u,huj⟩:∃ u,us[j]?=some u:=⟨_,AB hjl⟩;have hur:=hu.keeps hk;obtain ⟨cs,hc,hcs⟩:=hur.cells (by omega);have hc4:=hcs j u huj;have hua':=hua (by omega);have hhr:=(hur.hld u (AE huj)).1;have hu4:=h4 u (AE huj);have q0:wr.cell? ⟨gu,j * 4,none⟩=some (.int .i64 (u.c.head.rel:Int)):=by rw [hc.cell];exact hc4.c0
     have q1:wr.cell? ⟨gu,j * 4+1,none⟩=some (.slice (some ⟨u.gt,0,none⟩) u.c.head.terms.length u.tc):=by rw [hc.cell];exact hc4.c1
     have q2:wr.cell? ⟨gu,j * 4+2,none⟩=some (.slice u.la u.c.lits.length u.lc):=by rw [hc.cell];exact hc4.c2
     have q3:wr.cell? ⟨gu,j * 4+3,none⟩=some (.slice (some ⟨u.gh,0,none⟩) u.hs.length u.ch):=by rw [hc.cell];exact hc4.c3
     subst hua';have kA:=AA.alloc [] wr (.cells #[.int .i64 (u.c.head.rel:Int),.slice (some ⟨u.gt,0,none⟩) u.c.head.terms.length u.tc,.slice u.la u.c.lits.length u.lc,.slice (some ⟨u.gh,0,none⟩) u.hs.length u.ch] 295);have hA:=AK.new wr #[.int .i64 (u.c.head.rel:Int),.slice (some ⟨u.gt,0,none⟩) u.c.head.terms.length u.tc,.slice u.la u.c.lits.length u.lc,.slice (some ⟨u.gh,0,none⟩) u.hs.length u.ch] 295;have zA:=AX wr (.cells #[.int .i64 (u.c.head.rel:Int),.slice (some ⟨u.gt,0,none⟩) u.c.head.terms.length u.tc,.slice u.la u.c.lits.length u.lc,.slice (some ⟨u.gh,0,none⟩) u.hs.length u.ch] 295);generalize hWA:wr.alloc (.cells #[.int .i64 (u.c.head.rel:Int),.slice (some ⟨u.gt,0,none⟩) u.c.head.terms.length u.tc,.slice u.la u.c.lits.length u.lc,.slice (some ⟨u.gh,0,none⟩) u.hs.length u.ch] 295)=WA at *;have d3:=hA.cell 3;simp at d3;have hhA:=hhr.keepsE kA;have hcell:∀ (i:Nat) (x:Value),(ints u.hs)[i]?=some x→WA.cell? ((⟨u.gh,0,none⟩:Addr).add i)=some x:=by
      intro i x hx;obtain ⟨y,hy,rfl⟩:=MC u.hs i x hx;rw [Addr.add_lit,Ag];exact hhA.cell hy
     have hoC:=AH hho.out kA;have hszC:w.heap.size≤WA.heap.size:=by have:=hk.size;omega
     have Htk:=AD (show us.take (j+1)=us.take j++[u] by rw [An,huj];rfl);clear huj hcs hc4 hc;go_wp2_with (at_builtin;refine wpList_append_own_at _ rfl _ _ 40 rfl w.heap.size 3 i0 (.int .i64 0) 1 8 underlying40 hi0 hz0 hz1 hz2 rfl (by decide) _ xs.length (ints xs) rfl hoC ⟨u.gh,0,none⟩ u.hs.length u.ch (ints u.hs) rfl (by simp [ints]) hcell (FP _) (by unfold maxLen;omega) (by omega) hszC ?_)
     intro v7 W7 hown7 hgrow7 hnil7 hat7;have k7:=grownBy_keeps' hgrow7 (Value.ownBlock u6).toList (fun q e=>.inl (by simp [e]));have kF:AA [] w W7:=(hk.trans kA).trans_new k7 (fun q hq=>.inr (hlow q (by simpa using hq)));have HoS:=AD hown7;clear hown7 hgrow7 hnil7 hat7 hcell hszC hoC d3 q0 q1 q2 q3 hWA;go_wp2_with fail
     go_roundw
     ·refine ⟨j+1,xs++u.hs,by simp,by omega,AD ?_,AD ?_,kF⟩
      ·have:=HoS.out;simpa [ints] using this
      ·rw [Htk.out,Te,hxs.out];simp only [Ab]
     ·simp only [intOf];omega
    ·have hjI:¬ (j:Int)<us.length:=(by omega);have e:j=us.length:=(by omega);subst e;rw [Bp] at hxs;have hx0:0<xs.length:=by rw [hxs.out,AJ,AJ,IP];omega
     obtain ⟨g0,c0,hv,hg0,hrow,_⟩:=Ke hho.out hx0;subst hv;have hE:=hbr.eng;have hsw:=AD (RM hE.sat hE.wf g0 c0 xs hrow (h.eng.sat.fresh hg0) (by rw [hxs.out];exact Hr.out) (by omega) (by rw [hE.n];omega));have g4:=hbr.bs.cell;go_wp2_with fail
     refine hsw.out.mono ?_;rintro e W5 ⟨rfl,S5,hsat5,hsw5,k5⟩;go_wp2_with fail
     go_end0
     refine ⟨rfl,S5,⟨hsat5,hsw5.wf hE.wf,hsw5.kok,by rw [hsw5.order];exact hE.ord,hE.co⟩,(hk.mono (by simp)).trans k5,hsw5.next,fun f c R hf hR=>hsw5.rep hE.wf (by rw [hxs.out];exact Hr.out) (by rw [hxs.out];exact hf) hR⟩
end
end Go.Proofs.YtgjomknpjigkhaaGreatDoor
