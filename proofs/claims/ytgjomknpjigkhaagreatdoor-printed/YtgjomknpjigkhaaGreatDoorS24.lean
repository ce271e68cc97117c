import Derived.Test.YtgjomknpjigkhaaGreatDoorS23
namespace Go.Proofs.YtgjomknpjigkhaaGreatDoor
set_option maxRecDepth 100000
set_option maxHeartbeats 4000000
section
open Go.RowKit
theorem begin_calls {w:World} {bb gr cr:Nat} {B:SB} {S:ST} {rs:List RelX} {x0 x1:Value} {ka:Option Addr} {ks:List CluX} {kc:Nat} (h:Bse w bb B S gr cr rs x0 x1 (.slice ka ks.length kc)) {Fs:Nat→List Nat→Prop} {rks:Nat→List Nat→Option Nat} (ha:AllS S rs Fs rks) (hks:KlsAt w (ftp B gr rs) ka ks) (hok:∀ k∈ks,ClOk rs k.c∧0<k.c.lits.length) (h52:ks.length≤52) (lay:Nat) (hl:S.next+3600000000<lim) :
  Calls Tryz.prog 216 #[.pointer (some ⟨bb,0,none⟩),.int .i64 (lay:Int)] w (BegTo B rs ks lay rks w S):=by
 have h6:=h.few
 obtain ⟨i0,hi0,hz0,hz1,hz2⟩:=info_parts info3
 have g3:=h.cells.cell 3
 simp at g3
 have Hl:=hide hl
 have Hfr:=hide (fun j (hj:w.heap.size≤j)=>h.eng.sat.fresh hj)
 have hown:∀ j∈B.own,j<w.heap.size:=h.eng.sat.lt
 clear hl
 go_enter Tryz.func216,Tryz.ntmps216
 go_wp2_with fail
 clear g3
 go_loopw [5,17] (fun x y wr=>∃ (j:Nat) (us:List RuX) (S1:ST),y=.int .i64 j∧j≤ks.length∧Begun wr w.heap.size S1 rks x us∧Hid (us.map (·.toCluX)=(ks.take j).filter (ofLay rs lay))∧EngS wr B S1∧Keeps B.own w wr∧Ext S S1∧S1.next≤S.next+67108908 * j) (fun _ y _=>((ks.length:Int) - intOf y).toNat)
 case atStart=>exact ⟨0,[],S,rfl,by omega,⟨⟨rfl,.inl ⟨rfl,rfl⟩⟩,fun u hu=>by simp at hu,by simp⟩,hide (by simp),h.eng,Keeps.refl _ _,Ext.refl S,by omega⟩
 case round=>
  obtain ⟨j,us,S1,rfl,hj,hbg,hus,hE,hk,hx,hn⟩:=hrel
  have Hn:=hide hn
  clear hn
  have hbr:=h.store hk hE
  by_cases hjl:j<ks.length
  ·have hjI:(j:Int)<ks.length:=by omega
   obtain ⟨k,hkj⟩:∃ k,ks[j]?=some k:=⟨_,List.getElem?_eq_getElem hjl⟩
   have hkm:=List.mem_of_getElem? hkj
   have hkr:=hks.keeps hk (fun j hj=>.inl (own_ftp hj))
   obtain ⟨gk,cs,hka,hgkX,hc,hcs⟩:=hkr.cells (by omega)
   have hc3:=hcs j k hkj
   obtain ⟨hcok,hl0⟩:=hok k hkm
   obtain ⟨r,hr1,hr2,hr3⟩:=hcok.head.rel
   have hρ:k.c.head.rel<rs.length:=(List.getElem?_eq_some_iff.1 hr1).1
   have hρI:(k.c.head.rel:Int)<rs.length:=by omega
   have q0:wr.cell? ⟨gk,j * 3,none⟩=some (.int .i64 (k.c.head.rel:Int)):=by rw [hc.cell];exact hc3.c0
   have q1:wr.cell? ⟨gk,j * 3+1,none⟩=some (.slice (some ⟨k.gt,0,none⟩) k.c.head.terms.length k.tc):=by rw [hc.cell];exact hc3.c1
   have q2:wr.cell? ⟨gk,j * 3+2,none⟩=some (.slice k.la k.c.lits.length k.lc):=by rw [hc.cell];exact hc3.c2
   have htk:ks.take (j+1)=ks.take j++[k]:=by rw [List.take_add_one,hkj];rfl
   have hlo:layOf rs k.c.head.rel=r.layer:=by simp [layOf,hr1]
   have hclu:=hks.clu k hkm
   obtain ⟨c,gt,tc,la,lc,lt⟩:=k
   dsimp only at q0 q1 q2 htk hlo hr1 hr2 hρ hρI hcok hl0 hclu
   obtain ⟨gl,hla⟩:∃ gl,la=some ⟨gl,0,none⟩:=by
    obtain ⟨gl,_,_,e,_⟩:=hclu.lits 0 c.lits[0] (List.getElem?_eq_getElem hl0)
    exact ⟨gl,e⟩
   subst hla
   have kA:=Keeps.alloc [] wr (.cells #[.int .i64 (c.head.rel:Int),.slice (some ⟨gt,0,none⟩) c.head.terms.length tc,.slice (some ⟨gl,0,none⟩) c.lits.length lc] 154)
   have hA:=CellsAt.new wr #[.int .i64 (c.head.rel:Int),.slice (some ⟨gt,0,none⟩) c.head.terms.length tc,.slice (some ⟨gl,0,none⟩) c.lits.length lc] 154
   have zA:=sizeE_alloc wr (.cells #[.int .i64 (c.head.rel:Int),.slice (some ⟨gt,0,none⟩) c.head.terms.length tc,.slice (some ⟨gl,0,none⟩) c.lits.length lc] 154)
   have hbA:=hbr.keeps0 kA
   obtain ⟨cr',hcr,hcrs⟩:=hbA.rel
   have hrc:=hcrs _ r hr1
   have htlk:=hide htk
   have Hr2:=hide hr2
   have Hlo:=hide hlo
   clear htk hlo hcs hc3 hc hr2
   rename World=>wo
   generalize hWA:wo.alloc (.cells #[.int .i64 (c.head.rel:Int),.slice (some ⟨gt,0,none⟩) c.head.terms.length tc,.slice (some ⟨gl,0,none⟩) c.lits.length lc] 154)=WA at *
   have d0:=hA.cell 0
   have d1:=hA.cell 1
   have d2:=hA.cell 2
   have g2:=hbA.cells.cell 2
   simp at d0 d1 d2 g2
   have g1:WA.cell? ⟨gr,c.head.rel * 5+1,none⟩=some (.int .i64 (r.layer:Int)):=by rw [hcr.cell];exact hrc.c1
   subst hka
   by_cases hly:r.layer=lay
   ·have hne:((r.layer:Int) != (lay:Int))=false:=by simp;omega
    go_wp2_with fail
    go_quiet (fail)
    go_wp2_with fail
    have Hf:=hide (show ∀ u:RuX,u.toCluX=⟨c,gt,tc,some ⟨gl,0,none⟩,lc,lt⟩→(us++[u]).map (·.toCluX)=(ks.take (j+1)).filter (ofLay rs lay) from fun u hu=>by
     have e:ofLay rs lay ⟨c,gt,tc,some ⟨gl,0,none⟩,lc,lt⟩=true:=by unfold ofLay;rw [Hlo.out];simpa using hly
     rw [htlk.out,List.filter_append,List.map_append,hus.out]
     simp [e,hu])
    have kD:=Keeps.drewN [] WA nq
    have kR:=Keeps.alloc [] (WA.drewN nq) (.cells #[.int .i64 (c.head.rel:Int),.slice (some ⟨gt,0,none⟩) c.head.terms.length tc,.slice (some ⟨gl,0,none⟩) c.lits.length lc,.slice none 0 0] 295)
    have hR:=CellsAt.new (WA.drewN nq) #[.int .i64 (c.head.rel:Int),.slice (some ⟨gt,0,none⟩) c.head.terms.length tc,.slice (some ⟨gl,0,none⟩) c.lits.length lc,.slice none 0 0] 295
    have zD:(WA.drewN nq).heap.size=wo.heap.size+1:=zA
    rw [zD] at hR
    have zR:((WA.drewN nq).alloc (.cells #[.int .i64 (c.head.rel:Int),.slice (some ⟨gt,0,none⟩) c.head.terms.length tc,.slice (some ⟨gl,0,none⟩) c.lits.length lc,.slice none 0 0] 295)).heap.size=wo.heap.size+1+1:=by rw [sizeE_alloc,zD]
    have kI:=(kA.trans kD).trans kR
    generalize (WA.drewN nq).alloc (.cells #[.int .i64 (c.head.rel:Int),.slice (some ⟨gt,0,none⟩) c.head.terms.length tc,.slice (some ⟨gl,0,none⟩) c.lits.length lc,.slice none 0 0] 295)=WI at *
    have hwo:w.heap.size≤wo.heap.size:=hk.size
    clear d0 d1 d2 g1 g2 hWA q0 q1 q2 hA hbA hcr hcrs hrc kA kD kR zD
    generalize hyo:wo.heap.size=yo at *
    go_loopw [38] (fun y wr=>∃ (i:Nat) (hs:List Int) (S2:ST) (hv:Value),y=.int .i64 i∧i≤c.lits.length∧CellsAt wr (yo+1) #[.int .i64 (c.head.rel:Int),.slice (some ⟨gt,0,none⟩) c.head.terms.length tc,.slice (some ⟨gl,0,none⟩) c.lits.length lc,hv]∧Hid (wr.ownsRow (yo+1+1) 3 1 hv i (ints hs))∧EngS wr B S2∧Keeps ((yo+1) :: B.own) WI wr∧Ext S1 S2∧S2.next≤S1.next+16773132 * i∧HldS S2 hs ((c.lits.take i).map (litH rks))) (fun y _=>((c.lits.length:Int) - intOf y).toNat)
    case atStart=>exact ⟨0,[],S1,_,rfl,by omega,hR,hide ⟨rfl,.inl ⟨rfl,rfl⟩⟩,hE.keeps0 kI,Keeps.refl _ _,Ext.refl S1,by omega,by simp,fun i a b h1=>by simp at h1⟩
    case round=>
     obtain ⟨i,hs,S2,hv,rfl,hi,hcR,hho,hE2,hk2,hx2,hn2,hH2⟩:=hrel
     have Hn2:=hide hn2
     clear hn2
     have hyT:∀ q∈(yo+1) :: B.own,q∈B.own∨w.heap.size≤q:=fun q hq=>by
      rcases List.mem_cons.1 hq with rfl | hq
      ·exact .inr (by omega)
      ·exact .inl hq
     have kW:Keeps ((yo+1) :: B.own) w wr:=((hk.mono (fun q hq=>List.mem_cons_of_mem _ hq)).trans (kI.mono (by simp))).trans hk2
     have hb2:=h.fresh kW hyT hE2
     have hxx:=hx.trans hx2
     by_cases hil:i<c.lits.length
     ·have hiI:(i:Int)<c.lits.length:=by omega
      have hfew:=hcok.few
      obtain ⟨l,hli⟩:∃ l,c.lits[i]?=some l:=⟨_,List.getElem?_eq_getElem hil⟩
      obtain ⟨gl',g,cc,e,hgl,hglX,hgX,hlit⟩:=(hclu.keeps kW (fun q hq=>(hyT q hq).imp own_ftp id)).lits i l hli
      have e2:gl' = gl:=by cases e;rfl
      subst e2
      have hat:=hcok.lits l (List.mem_of_getElem? hli)
      obtain ⟨r2,hr21,hr22,hr23⟩:=hat.rel
      have hρ2:l.1.rel<rs.length:=(List.getElem?_eq_some_iff.1 hr21).1
      have hρ2I:(l.1.rel:Int)<rs.length:=by omega
      have hn3:=h.cols r2 (List.mem_of_getElem? hr21)
      have hgB:g∉B.own:=fun q=>hgX (own_ftp q)
      have kL:=Keeps.alloc [] wr (.cells #[.int .i64 (l.1.rel:Int),.slice (some ⟨g,0,none⟩) l.1.terms.length cc,.bool l.2] 279)
      have hL:=CellsAt.new wr #[.int .i64 (l.1.rel:Int),.slice (some ⟨g,0,none⟩) l.1.terms.length cc,.bool l.2] 279
      have zL:=sizeE_alloc wr (.cells #[.int .i64 (l.1.rel:Int),.slice (some ⟨g,0,none⟩) l.1.terms.length cc,.bool l.2] 279)
      have p0:=hlit.rel
      have p1:=hlit.tms
      have p2:=hlit.no
      have htu:=((ha _ r2 hr21).tu.ext hxx h.eng.wf hE2.wf)
      have hbL:=hb2.keeps0 kL
      have hwh:=hide (fun (W:World) (k:Keeps [] (wr.alloc (.cells #[.int .i64 (l.1.rel:Int),.slice (some ⟨g,0,none⟩) l.1.terms.length cc,.bool l.2] 279)) W)=>where_R (c:=cc) (ρ:=(l.1.rel:Int)) (hbL.eng.keeps0 k) (hbL.bs.keeps k (by simp)) hgB ((hlit.row.keeps kL (by simp)).keeps k (by simp)) hat.tms (by omega) (by omega) (by rw [hr22];exact htu) (by have:=Hl.out;have:=Hn.out;have:=Hn2.out;have:=hcok.few;omega))
      obtain ⟨crL,hcrL,hcrsL⟩:=hbL.rel
      have hrcL:=hcrsL _ r2 hr21
      have hli1:c.lits.take (i+1)=c.lits.take i++[l]:=by rw [List.take_add_one,hli];rfl
      have Hli1:=hide hli1
      have Hr22:=hide hr22
      obtain ⟨⟨ρ2,tms⟩,no⟩:=l
      dsimp only at hL kL zL p0 p1 p2 hbL hwh hcrL hrcL hρ2I Hli1 Hr22
      generalize hWL:wr.alloc (.cells #[.int .i64 (ρ2:Int),.slice (some ⟨g,0,none⟩) tms.length cc,.bool no] 279)=WL at *
      have s0:=hL.cell 0
      have s1:=hL.cell 1
      have s2:=hL.cell 2
      have g2:=hbL.cells.cell 2
      simp at s0 s1 s2 g2
      have g1:WL.cell? ⟨gr,ρ2 * 5+3,none⟩=some (.int .i64 r2.tu):=by rw [hcrL.cell];exact hrcL.c3
      clear hr21 hr22 hli hli1 hlit htu hat hcrsL hrcL hcrL e
      go_wp2_with fail
      refine wp_quietV 13 (by kernel_rfl) (by kernel_rfl) ?_
      simp only [List.take_succ_cons,List.take_zero,List.drop_succ_cons,List.drop_zero]
      repeat (go_big_quiet_step (fail))
      refine wpQuiet_nil ?_
      go_wp2_with fail
      refine (hwh.out _ (Keeps.drew [] _)).mono ?_
      rintro e W5 ⟨y,S5,rfl,hE5,k5,x5,n5,hr5⟩
      cases no with
      | false=>
       obtain ⟨y6,S6,W6,hE6,k6,x6,n6,hr6,ey,ew⟩:∃ y6 S6 W6,EngS W6 B S6∧Keeps B.own WL.drew W6∧Ext S2 S6∧S6.next≤S2.next+16773132∧Rep S6 y6 4 (litH rks (⟨ρ2,tms⟩,false))∧y6=y∧W6=W5:=⟨y,S5,W5,hE5,k5,x5,by omega,⟨hr5.1,fun σ=>by rw [hr5.2];rfl⟩,rfl,rfl⟩
       subst ey ew
       have t2:W6.cell? ⟨wr.heap.size,2,none⟩=some (.bool false):=by have:=((hL.keeps (Keeps.drew [] WL) (by simp)).keeps k6 (hE2.sat.fresh (Nat.le_refl _))).cell 2;simpa using this
       have kL6:Keeps B.own wr W6:=((kL.trans (Keeps.drew [] WL)).mono (by simp)).trans k6
       have hcR6:=hcR.keeps kL6 (Hfr.out _ (by omega))
       have hlow:∀ q,Value.ownBlock hv=some q→yo+1+1≤q:=fun q hq=>(ownE_base hho.out q hq).1
       have ho6:=ownsRow_kept hho.out kL6 (fun q hq=>Hfr.out q (by have:=hlow q hq;omega))
       have r3:=hcR6.cell 3
       simp at r3
       have kC:=Keeps.alloc [] W6 (.cells #[.int .i64 y6] 3)
       have hoC:=ownsRow_kept ho6 kC (by simp)
       have hszC:yo+1+1≤(W6.alloc (.cells #[.int .i64 y6] 3)).heap.size:=by rw [sizeE_alloc];have:=kL6.size;have:=hk2.size;omega
       have hone:=one_cellE (W:=W6) (y:=y6)
       clear hwh s0 s1 s2 g1 g2 p0 p1 p2 hWL
       go_wp2_with (at_builtin;refine wpList_append_own_at _ rfl _ _ 40 rfl (yo+1+1) 3 i0 (.int .i64 0) 1 8 Tryz.underlying40 hi0 hz0 hz1 hz2 rfl (by decide) _ i (ints hs) rfl hoC ⟨W6.heap.size,0,none⟩ 1 1 (ints [y6]) rfl (by simp [ints]) hone (ints_one _) (by unfold maxLen;omega) (by omega) hszC ?_)
       intro v7 W7 hown7 hgrow7 hnil7 hat7
       obtain ⟨g7,c7,hv7⟩:=ownE_succ hown7
       subst hv7
       have k7:=grownBy_keeps' hgrow7 (Value.ownBlock hv).toList (fun q e=>.inl (by simp [e]))
       have hT7:∀ q∈(Value.ownBlock hv).toList,yo+1+1≤q:=fun q hq=>hlow q (by simpa using hq)
       have hcR7:=(hcR6.keeps kC (by simp)).keeps k7 (fun hm=>by have:=hT7 _ hm;omega)
       have hE7:=(hE6.keeps0 kC).keeps k7 (fun q hq hm=>Hfr.out q (by have:=hT7 _ hm;omega) hq)
       have r37:=hcR7.cell 3
       have f37:=hcR7.frozen 3
       simp at r37
       have hcS:=hcR7.setCell 3 (.slice (some ⟨g7,0,none⟩) (i+1) c7)
       have kS:=Keeps.setCell W7 ⟨yo+1,3,none⟩ (.slice (some ⟨g7,0,none⟩) (i+1) c7)
       have hES:=hE7.keeps kS (fun q hq hm=>Hfr.out q (by simp only [List.mem_singleton] at hm;omega) hq)
       have hoS:=ownsRow_kept hown7 kS (fun q hq hm=>by simp only [List.mem_singleton] at hm;have:=(ownE_base hown7 q hq).1;omega)
       have HoS:=hide hoS
       have HcS:=hide hcS
       have kF:Keeps ((yo+1) :: B.own) WI (W7.setCell ⟨yo+1,3,none⟩ (.slice (some ⟨g7,0,none⟩) (i+1) c7)):=(((hk2.trans (kL6.mono (fun q hq=>List.mem_cons_of_mem _ hq))).trans (kC.mono (by simp))).trans_new k7 (fun q hq=>.inr (by have:=hT7 q hq;omega))).trans (kS.mono (by simp))
       have Hn6:=hide n6
       clear n6 hown7 hgrow7 hnil7 hat7 hone hszC hoC ho6 r3 hoS hcS hcR6
       go_wp2_with fail
       go_roundw
       ·refine ⟨i+1,hs++[y6],S6,_,by simp,by omega,by simpa using HcS.out,hide ?_,hES,kF,hx2.trans x6,by have:=Hn2.out;have:=Hn6.out;push_cast;omega,?_⟩
        ·have:=HoS.out;simpa [ints] using this
        ·rw [Hli1.out,List.map_append]
         exact (hH2.ext x6 hE2.wf hE6.wf).snoc hr6
       ·simp only [intOf];omega
      | true=>
       have t2:W5.cell? ⟨wr.heap.size,2,none⟩=some (.bool true):=by have:=((hL.keeps (Keeps.drew [] WL) (by simp)).keeps k5 (hE2.sat.fresh (Nat.le_refl _))).cell 2;simpa using this
       have g4:=((hbL.bs.keeps (Keeps.drew [] WL) (by simp)).own k5).cell
       have hnt:=hide (not_E hE5 hr5 (by have:=Hl.out;have:=Hn.out;have:=Hn2.out;have:=hcok.few;omega))
       go_wp2_with fail
       refine hnt.out.mono ?_
       rintro e W6 ⟨y6,S6,rfl,hE6,k6',x6',n6',hr6'⟩
       have k6:=k5.trans k6'
       have x6:=x5.trans x6'
       have n6:S6.next≤S2.next+16773132:=by omega
       have hr6:Rep S6 y6 4 (litH rks (⟨ρ2,tms⟩,true)):=⟨hr6'.1,fun σ=>by rw [hr6'.2];rfl⟩
       clear n6' hnt t2 g4
       have kL6:Keeps B.own wr W6:=((kL.trans (Keeps.drew [] WL)).mono (by simp)).trans k6
       have hcR6:=hcR.keeps kL6 (Hfr.out _ (by omega))
       have hlow:∀ q,Value.ownBlock hv=some q→yo+1+1≤q:=fun q hq=>(ownE_base hho.out q hq).1
       have ho6:=ownsRow_kept hho.out kL6 (fun q hq=>Hfr.out q (by have:=hlow q hq;omega))
       have r3:=hcR6.cell 3
       simp at r3
       have kC:=Keeps.alloc [] W6 (.cells #[.int .i64 y6] 3)
       have hoC:=ownsRow_kept ho6 kC (by simp)
       have hszC:yo+1+1≤(W6.alloc (.cells #[.int .i64 y6] 3)).heap.size:=by rw [sizeE_alloc];have:=kL6.size;have:=hk2.size;omega
       have hone:=one_cellE (W:=W6) (y:=y6)
       clear hwh s0 s1 s2 g1 g2 p0 p1 p2 hWL
       go_wp2_with (at_builtin;refine wpList_append_own_at _ rfl _ _ 40 rfl (yo+1+1) 3 i0 (.int .i64 0) 1 8 Tryz.underlying40 hi0 hz0 hz1 hz2 rfl (by decide) _ i (ints hs) rfl hoC ⟨W6.heap.size,0,none⟩ 1 1 (ints [y6]) rfl (by simp [ints]) hone (ints_one _) (by unfold maxLen;omega) (by omega) hszC ?_)
       intro v7 W7 hown7 hgrow7 hnil7 hat7
       obtain ⟨g7,c7,hv7⟩:=ownE_succ hown7
       subst hv7
       have k7:=grownBy_keeps' hgrow7 (Value.ownBlock hv).toList (fun q e=>.inl (by simp [e]))
       have hT7:∀ q∈(Value.ownBlock hv).toList,yo+1+1≤q:=fun q hq=>hlow q (by simpa using hq)
       have hcR7:=(hcR6.keeps kC (by simp)).keeps k7 (fun hm=>by have:=hT7 _ hm;omega)
       have hE7:=(hE6.keeps0 kC).keeps k7 (fun q hq hm=>Hfr.out q (by have:=hT7 _ hm;omega) hq)
       have r37:=hcR7.cell 3
       have f37:=hcR7.frozen 3
       simp at r37
       have hcS:=hcR7.setCell 3 (.slice (some ⟨g7,0,none⟩) (i+1) c7)
       have kS:=Keeps.setCell W7 ⟨yo+1,3,none⟩ (.slice (some ⟨g7,0,none⟩) (i+1) c7)
       have hES:=hE7.keeps kS (fun q hq hm=>Hfr.out q (by simp only [List.mem_singleton] at hm;omega) hq)
       have hoS:=ownsRow_kept hown7 kS (fun q hq hm=>by simp only [List.mem_singleton] at hm;have:=(ownE_base hown7 q hq).1;omega)
       have HoS:=hide hoS
       have HcS:=hide hcS
       have kF:Keeps ((yo+1) :: B.own) WI (W7.setCell ⟨yo+1,3,none⟩ (.slice (some ⟨g7,0,none⟩) (i+1) c7)):=(((hk2.trans (kL6.mono (fun q hq=>List.mem_cons_of_mem _ hq))).trans (kC.mono (by simp))).trans_new k7 (fun q hq=>.inr (by have:=hT7 q hq;omega))).trans (kS.mono (by simp))
       have Hn6:=hide n6
       clear n6 hown7 hgrow7 hnil7 hat7 hone hszC hoC ho6 r3 hoS hcS hcR6
       go_wp2_with fail
       go_roundw
       ·refine ⟨i+1,hs++[y6],S6,_,by simp,by omega,by simpa using HcS.out,hide ?_,hES,kF,hx2.trans x6,by have:=Hn2.out;have:=Hn6.out;push_cast;omega,?_⟩
        ·have:=HoS.out;simpa [ints] using this
        ·rw [Hli1.out,List.map_append]
         exact (hH2.ext x6 hE2.wf hE6.wf).snoc hr6
       ·simp only [intOf];omega
     ·have hiI:¬ (i:Int)<c.lits.length:=by omega
      have e:i=c.lits.length:=by omega
      subst e
      rw [List.take_length] at hH2
      have hhl:hs.length=c.lits.length:=by rw [hH2.1,List.length_map]
      rw [←hhl] at hho
      obtain ⟨gh,ch,hv',hgh,hhr,_⟩:=rowE_of hho.out (by omega)
      subst hv'
      have hul:us.length≤52:=by
       have:=congrArg List.length hus.out
       rw [List.length_map] at this
       have h2:=List.length_filter_le (ofLay rs lay) (ks.take j)
       rw [List.length_take] at h2
       omega
      have hT2:∀ q∈(yo+1) :: B.own,q<w.heap.size∨wo.heap.size≤q:=fun q hq=>by
       rcases List.mem_cons.1 hq with rfl | hq
       ·exact .inr (by omega)
       ·exact .inl (hown q hq)
      have hb3:=(hbg.keeps (kI.mono (T':=(yo+1) :: B.own) (by simp) |>.trans hk2) hT2 hx2 hE.wf hE2.wf)
      have hold:∀ u∈us,u.gh<yo:=fun u hu=>by have:=(hbg.hld u hu).1.lt;omega
      have hown5:∀ q,Value.ownBlock u5=some q→q<yo:=fun q hq=>by have:=(World.ownsRow.lt hbg.row q hq).2;omega
      obtain ⟨ai,hai0,haz0,haz1,haz2⟩:=info_parts info295
      have kC:=Keeps.alloc [] wr (.cells #[.int .i64 (c.head.rel:Int),.slice (some ⟨gt,0,none⟩) c.head.terms.length tc,.slice (some ⟨gl,0,none⟩) c.lits.length lc,.slice (some ⟨gh,0,none⟩) hs.length ch] 295)
      have hoC:=ownsRow_kept hb3.row kC (by simp)
      have hszC:w.heap.size≤(wr.alloc (.cells #[.int .i64 (c.head.rel:Int),.slice (some ⟨gt,0,none⟩) c.head.terms.length tc,.slice (some ⟨gl,0,none⟩) c.lits.length lc,.slice (some ⟨gh,0,none⟩) hs.length ch] 295)).heap.size:=by rw [sizeE_alloc];have:=kW.size;omega
      have hfc:=four_cellsE (W:=wr) (a:=.int .i64 (c.head.rel:Int)) (b:=.slice (some ⟨gt,0,none⟩) c.head.terms.length tc) (c:=.slice (some ⟨gl,0,none⟩) c.lits.length lc) (d:=.slice (some ⟨gh,0,none⟩) hs.length ch) (t:=295)
      have b0:=hcR.cell 0
      have b1:=hcR.cell 1
      have b2:=hcR.cell 2
      have b3:=hcR.cell 3
      simp at b0 b1 b2 b3
      have Hhl:=hide hhl
      clear hhl
      go_wp2_with (at_builtin;refine wpList_append_own_at _ rfl _ _ 289 rfl w.heap.size 295 ai (.agg #[.int .i64 0,.slice none 0 0,.slice none 0 0,.slice none 0 0]) 4 80 Tryz.underlying289 hai0 haz0 haz1 haz2 rfl (by decide) _ us.length (ruCs us) rfl hoC ⟨wr.heap.size,0,none⟩ 1 1 [.int .i64 (c.head.rel:Int),.slice (some ⟨gt,0,none⟩) c.head.terms.length tc,.slice (some ⟨gl,0,none⟩) c.lits.length lc,.slice (some ⟨gh,0,none⟩) hs.length ch] rfl rfl hfc (by intro u hu;simp at hu;rcases hu with rfl | rfl | rfl | rfl <;> rfl) (by unfold maxLen;omega) (by omega) hszC ?_)
      intro v9 W9 hown9 hgrow9 hnil9 hat9
      obtain ⟨g9,c9,hv9⟩:=ownE_succ hown9
      subst hv9
      have k9:=grownBy_keeps' hgrow9 (Value.ownBlock u5).toList (fun q e=>.inl (by simp [e]))
      have hT9:∀ q∈(Value.ownBlock u5).toList,q<yo∧w.heap.size≤q:=fun q hq=>by
       have h1:Value.ownBlock u5=some q:=by simpa using hq
       exact ⟨hown5 q h1,(ownE_base hbg.row q h1).1⟩
      have hwrs:=hk2.size
      have hg9:g9<yo∨g9=wr.heap.size+1:=by
       rcases hat9 with e | e
       ·exact .inl (hown5 g9 (by rw [←e];rfl))
       ·right;have:some g9=some (wr.heap.size+1):=e;exact Option.some.inj this
      have hg9u:∀ u∈us,g9≠u.gh:=fun u hu=>by
       rcases hat9 with e | e
       ·exact (hbg.hld u hu).2.2.2.2 g9 (by rw [←e];rfl)
       ·have h1:some g9=some (wr.heap.size+1):=e
        have h2:=Option.some.inj h1
        have:=hold u hu
        omega
      have hE9:=(hE2.keeps0 kC).keeps k9 (fun q hq hm=>Hfr.out q (hT9 q hm).2 hq)
      have kF:Keeps B.own w W9:=((kW.drop (by omega)).trans (kC.mono (by simp))).trans_new k9 (fun q hq=>.inr (hT9 q hq).2)
      have hhr9:=(hhr.keepsE kC (by simp)).keepsE k9 (fun hm=>by have:=(hT9 _ hm).1;omega)
      have hB9:Begun W9 w.heap.size S2 rks (.slice (some ⟨g9,0,none⟩) (us.length+1) c9) (us++[{ c:=c,gt:=gt,tc:=tc,la:=some ⟨gl,0,none⟩,lc:=lc,lt:=lt,gh:=gh,ch:=ch,hs:=hs }]):=by
       refine ⟨?_,fun u hu=>?_,?_⟩
       ·rw [ruCs_snoc,List.length_append];exact hown9
       ·rcases List.mem_append.1 hu with hu | hu
        ·obtain ⟨e1,e2,e3,e4,_⟩:=hb3.hld u hu
         refine ⟨(e1.keepsE kC (by simp)).keepsE k9 (fun hm=>(hbg.hld u hu).2.2.2.2 _ (by simpa using hm) rfl),e2,e3,e4,fun q hq=>?_⟩
         have h1:some g9=some q:=hq
         cases h1
         exact hg9u u hu
        ·simp only [List.mem_singleton] at hu
         subst hu
         refine ⟨hhr9,by show w.heap.size≤gh;omega,Hhl.out,hH2,fun q hq=>?_⟩
         have h1:some g9=some q:=hq
         cases h1
         show g9≠gh
         have:=hhr.lt
         omega
       ·rw [List.map_append,List.nodup_append]
        refine ⟨hbg.nodup,by simp,fun a ha' b hb'=>?_⟩
        simp only [List.map_cons,List.map_nil,List.mem_singleton] at hb'
        obtain ⟨u,hu,rfl⟩:=List.mem_map.1 ha'
        have:=hold u hu
        intro e
        have e2:u.gh=gh:=e.trans hb'
        omega
      have HB9:=hide hB9
      clear hB9 hown9 hgrow9 hnil9 hat9 hoC hfc b0 b1 b2 b3 hb3 hcR hho hhr hhr9 hg9 hg9u hT9
      go_wp2_with fail
      go_roundw
      ·exact ⟨j+1,us++[{ c:=c,gt:=gt,tc:=tc,la:=some ⟨gl,0,none⟩,lc:=lc,lt:=lt,gh:=gh,ch:=ch,hs:=hs }],S2,by simp,by omega,HB9.out,hide (Hf.out _ rfl),hE9,kF,hxx,by have:=Hn.out;have:=Hn2.out;have:=hcok.few;push_cast;omega⟩
      ·simp only [intOf];omega
   ·have hne:((r.layer:Int) != (lay:Int))=true:=by simp;omega
    have Hf:=hide (show us.map (·.toCluX)=(ks.take (j+1)).filter (ofLay rs lay) from by
     have e:ofLay rs lay ⟨c,gt,tc,some ⟨gl,0,none⟩,lc,lt⟩=false:=by unfold ofLay;rw [Hlo.out];simpa using hly
     rw [htlk.out,List.filter_append,hus.out]
     simp [e])
    go_wp2_with fail
    go_quiet (fail)
    go_wp2_with fail
    go_roundw
    ·exact ⟨j+1,us,S1,by simp,by omega,(hbg.keeps kA (by simp) (Ext.refl S1) hE.wf hE.wf).keeps (Keeps.drewN [] _ _) (by simp) (Ext.refl S1) hE.wf hE.wf,Hf,(hE.keeps0 kA).keeps0 (Keeps.drewN [] _ _),hk.trans ((kA.trans (Keeps.drewN [] _ _)).mono (by simp)),hx,by have:=Hn.out;push_cast;omega⟩
    ·simp only [intOf];omega
  ·have hjI:¬ (j:Int)<ks.length:=by omega
   have e:j=ks.length:=by omega
   subst e
   rw [List.take_length] at hus
   go_wp2_with fail
   go_ret
   exact ⟨_,us,S1,rfl,hbg,hus.out,hE,hk,hx,by have:=Hn.out;omega⟩
end
section
open Go.RowKit
def cameH (Xf:Nat→List Nat→Prop) (l:AtomM×Bool) (ν:List Nat):Prop:=Xf l.1.rel (l.1.terms.map (tvR ν))
def orF (Hs Cs:List (List Nat→Prop)) (i k:Nat) (ν:List Nat):Prop:=(∃ H,Hs[k]?=some H∧H ν)∨(k<i∧∃ C,Cs[k]?=some C∧C ν)
def orTo (Hs Cs:List (List Nat→Prop)) (i:Nat):List (List Nat→Prop):=(List.range Hs.length).map (orF Hs Cs i)
theorem orTo_at {Hs Cs:List (List Nat→Prop)} {i k:Nat} {H:List Nat→Prop} (h:(orTo Hs Cs i)[k]?=some H):k<Hs.length∧H=orF Hs Cs i k:=by
 have hk:k<Hs.length:=by have:=(List.getElem?_eq_some_iff.1 h).1;simpa [orTo] using this
 simp only [orTo,List.getElem?_map,List.getElem?_range hk,Option.map_some,Option.some.injEq] at h
 exact ⟨hk,h.symm⟩
theorem HldS.orZero {S:ST} {hs:List Int} {Hs Cs:List (List Nat→Prop)} (h:HldS S hs Hs):HldS S hs (orTo Hs Cs 0):=⟨by rw [h.1];simp [orTo],fun k y H h1 h2=>by
 obtain ⟨hk,rfl⟩:=orTo_at h2
 have e:=List.getElem?_eq_getElem hk
 refine (h.2 k y _ h1 e).iff fun ν _=>?_
 unfold orF
 exact ⟨fun q=>.inl ⟨_,e,q⟩,fun q=>by
  rcases q with ⟨G,hG,q⟩ | ⟨q,_⟩
  ·rw [e] at hG;cases hG;exact q
  ·omega⟩⟩
theorem HldS.orStep {S:ST} {hs:List Int} {Hs Cs:List (List Nat→Prop)} {i:Nat} {C:List Nat→Prop} {t:Int} (h:HldS S hs (orTo Hs Cs i)) (hC:Cs[i]?=some C) (hi:i<hs.length) (ht:∀ H,(orTo Hs Cs i)[i]?=some H→Rep S t 4 (fun ν=>H ν∨C ν)):HldS S (hs.set i t) (orTo Hs Cs (i+1)):=by
 refine ⟨by rw [List.length_set,h.1];simp [orTo],fun k y H h1 h2=>?_⟩
 obtain ⟨hk,rfl⟩:=orTo_at h2
 have ek:(orTo Hs Cs i)[k]?=some (orF Hs Cs i k):=by simp [orTo,hk]
 rw [List.getElem?_set] at h1
 by_cases e:i=k
 ·subst e
  rw [if_pos rfl,if_pos hi] at h1
  cases h1
  refine (ht _ ek).iff fun ν _=>?_
  unfold orF
  constructor
  ·rintro ((q | ⟨q,_⟩) | q)
   ·exact .inl q
   ·omega
   ·exact .inr ⟨by omega,C,hC,q⟩
  ·rintro (q | ⟨_,G,hG,q⟩)
   ·exact .inl (.inl q)
   ·rw [hC] at hG;cases hG;exact .inr q
 ·rw [if_neg e] at h1
  refine (h.2 k y _ h1 ek).iff fun ν _=>?_
  unfold orF
  have:k<i+1↔k<i:=by omega
  rw [this]
theorem RusAt.setH {w w':World} {X T:List Nat} {gu:Nat} {us:List RuX} (h:RusAt w X gu us) {p:Nat} {u:RuX} (hp:us[p]?=some u) {hs:List Int} (hl:hs.length=u.hs.length) (k:Keeps (u.gh :: T) w w') (hT:∀ j∈T,j∈X∨w.heap.size≤j) (hr:RowIs w' u.gh hs):RusAt w' X gu (us.set p { u with hs:=hs }):=by
 have hu:=List.mem_of_getElem? hp
 have hpl:=(List.getElem?_eq_some_iff.1 hp).1
 have hmap:(us.set p { u with hs:=hs }).map (·.gh)=us.map (·.gh):=by
  apply List.ext_getElem?
  intro j
  rw [List.getElem?_map,List.getElem?_map,List.getElem?_set]
  by_cases e:p=j
  ·subst e;rw [if_pos rfl,if_pos hpl,hp];rfl
  ·rw [if_neg e]
 have hmem:∀ x∈us.set p { u with hs:=hs },x={ u with hs:=hs }∨x∈us:=fun x hx=>by
  obtain ⟨j,hj,rfl⟩:=List.getElem_of_mem hx
  rw [List.getElem_set]
  split
  ·exact .inl rfl
  ·exact .inr (List.getElem_mem _)
 have hT2:∀ j∈u.gh :: T,j∈us.map (·.gh)++X∨w.heap.size≤j:=fun j hj=>by
  rcases List.mem_cons.1 hj with rfl | hj
  ·exact .inl (List.mem_append.2 (.inl (List.mem_map.2 ⟨u,hu,rfl⟩)))
  ·exact (hT j hj).imp (fun q=>List.mem_append.2 (.inr q)) id
 have ne:∀ {j},j≠u.gh→j∉X→j<w.heap.size→j∉u.gh :: T:=fun h0 h1 h2=>not_cons h0 (fun hm=>(hT _ hm).elim h1 (fun q=>by omega))
 refine ⟨fun h0=>?_,fun h0=>?_,fun x hx=>?_,fun x hx=>?_,by rw [hmap];exact h.nodup⟩
 ·rw [List.length_set] at h0
  obtain ⟨cs,h1,h2⟩:=h.cells h0
  refine ⟨cs,h1.keeps k (ne ((h.guX h0).2 u hu) (h.guX h0).1 h1.lt),fun j x hj=>?_⟩
  rw [List.getElem?_set] at hj
  by_cases e:p=j
  ·subst e
   rw [if_pos rfl,if_pos hpl] at hj
   cases hj
   have c:=h2 p u hp
   exact ⟨c.c0,c.c1,c.c2,by rw [c.c3];show _=some (Value.slice _ hs.length _);rw [hl]⟩
  ·rw [if_neg e] at hj
   exact h2 j x hj
 ·rw [List.length_set] at h0
  refine ⟨(h.guX h0).1,fun x hx=>?_⟩
  rcases hmem x hx with rfl | hx
  ·exact (h.guX h0).2 u hu
  ·exact (h.guX h0).2 x hx
 ·rw [hmap]
  rcases hmem x hx with rfl | hx
  ·exact (h.clu u hu).keeps k hT2
  ·exact (h.clu x hx).keeps k hT2
 ·obtain ⟨j,hj,rfl⟩:=List.getElem_of_mem hx
  rw [List.getElem_set]
  split
  ·exact ⟨hr,(h.hld u hu).2.1,by rw [hl];exact (h.hld u hu).2.2⟩
  ·rename_i hne
   rw [List.length_set] at hj
   obtain ⟨h1,h2,h3⟩:=h.hld _ (List.getElem_mem hj)
   refine ⟨h1.keepsE k (ne (fun e=>hne ?_) h2 h1.lt),h2,h3⟩
   have e1:(us.map (·.gh))[p]?=some u.gh:=by rw [List.getElem?_map,hp];rfl
   have e2:(us.map (·.gh))[j]?=some u.gh:=by rw [List.getElem?_map,List.getElem?_eq_getElem hj,←e];rfl
   exact (List.getElem?_inj (by simpa using hpl) h.nodup).1 (e1.trans e2.symm)
def nextTo (us:List RuX) (HS:Nat→List (List Nat→Prop)) (Xf:Nat→List Nat→Prop) (j m i:Nat) (l:List Nat):Prop:=
 ∃ p u k a,(p<j∨(p=j∧k<m))∧us[p]?=some u∧u.c.head.rel=i∧u.c.lits[k]?=some a∧brings u.c.head.terms (fun ν=>cameH Xf a ν∧allH (orTo (HS p) (u.c.lits.map (cameH Xf)) u.c.lits.length) u.c.lits.length ν) l
theorem nextTo_step {us:List RuX} {HS:Nat→List (List Nat→Prop)} {Xf:Nat→List Nat→Prop} {j m:Nat} {u:RuX} {a:AtomM×Bool} (hu:us[j]?=some u) (ha:u.c.lits[m]?=some a) (i:Nat) (l:List Nat):upX (nextTo us HS Xf j m) u.c.head.rel (brings u.c.head.terms (fun ν=>cameH Xf a ν∧allH (orTo (HS j) (u.c.lits.map (cameH Xf)) u.c.lits.length) u.c.lits.length ν)) i l↔nextTo us HS Xf j (m+1) i l:=by
 unfold upX
 constructor
 ·split
  ·rename_i e
   subst e
   rintro (⟨p,v,k,b,h1,h2,h3,h4,h5⟩ | q)
   ·exact ⟨p,v,k,b,by omega,h2,h3,h4,h5⟩
   ·exact ⟨j,u,m,a,by omega,hu,rfl,ha,q⟩
  ·rintro ⟨p,v,k,b,h1,h2,h3,h4,h5⟩
   exact ⟨p,v,k,b,by omega,h2,h3,h4,h5⟩
 ·rintro ⟨p,v,k,b,h1,h2,h3,h4,h5⟩
  by_cases e:p<j∨(p=j∧k<m)
  ·split
   ·rename_i e2;subst e2;exact .inl ⟨p,v,k,b,e,h2,h3,h4,h5⟩
   ·exact ⟨p,v,k,b,e,h2,h3,h4,h5⟩
  ·have e1:p=j:=by omega
   have e2:k=m:=by omega
   subst e1 e2
   rw [hu] at h2
   cases h2
   rw [ha] at h4
   cases h4
   rw [if_pos h3.symm]
   exact .inr h5
theorem nextTo_next {us:List RuX} {HS:Nat→List (List Nat→Prop)} {Xf:Nat→List Nat→Prop} {j:Nat} {u:RuX} (hu:us[j]?=some u) (i:Nat) (l:List Nat):nextTo us HS Xf j u.c.lits.length i l↔nextTo us HS Xf (j+1) 0 i l:=by
 constructor
 ·rintro ⟨p,v,k,b,h1,h2⟩
  exact ⟨p,v,k,b,by omega,h2⟩
 ·rintro ⟨p,v,k,b,h1,h2,h3,h4,h5⟩
  refine ⟨p,v,k,b,?_,h2,h3,h4,h5⟩
  by_cases e:p<j
  ·exact .inl e
  ·have e1:p=j:=by omega
   subst e1
   rw [hu] at h2
   cases h2
   exact .inr ⟨rfl,(List.getElem?_eq_some_iff.1 h4).1⟩
end
end Go.Proofs.YtgjomknpjigkhaaGreatDoor
