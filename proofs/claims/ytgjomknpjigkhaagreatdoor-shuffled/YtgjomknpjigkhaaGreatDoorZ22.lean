import Derived.Test.YtgjomknpjigkhaaGreatDoorZ16
namespace Go.Proofs.YtgjomknpjigkhaaGreatDoor
open Go.Proofs.Tryz
set_option maxRecDepth 100000
set_option maxHeartbeats 4000000
section
open Go.RowKit
theorem iR:(prog.info? 40).map (fun i=>(i.zero,i.size,i.bytes))=some (some (.slice none 0 0),1,24):=by kernel_rfl
theorem Xa {W:World} {x:Value} {t:TypeId}:∀ (j:Nat) (u:Value),[x][j]?=some u→(W.alloc (.cells #[x] t)).cell? ((⟨W.heap.size,0,none⟩:Addr).add j)=some u:=by
 intro j u hu;rw [Addr.add_lit,Ag,(AK.new W #[x] t).cell];match j with
 | 0=>simpa using hu
 | j+1=>simp at hu
theorem Fr {w:World} {base:Nat} {e:TypeId} {size n c:Nat} {a:Option Addr} {xs:List Value} (h:w.ownsRow base e size (.slice a n c) n xs) (hn:0<n):∃ g,a=some ⟨g,0,none⟩:=by
 rcases h.2 with ⟨h1,h2⟩ | ⟨g,cap,cur,h1,_⟩
 ·omega
 ·cases h1;exact ⟨g,rfl⟩
def Pb (d:List Nat):Except I0 (List Nat)→Except I0 (List Nat)
 | .ok r=>.ok (d++r)
 | .error f=>.error f
def RelTo (base B:Nat) (m:Mean) (n:Tn) (R:Except I0 (List Nat)) (e:Ending) (w':World):Prop:=match R with
 | .error f=>e=Cx f.1 f.2
 | .ok ds=>e=.returned (.tuple #[])∧B5 w' base B { m with rels:=m.rels++[(BB n.g,ds)] }
set_option maxHeartbeats 8000000 in
theorem aW {w:World} {base B:Nat} {m:Mean} (h:B5 w base B m) (hbase:base≤w.heap.size) (n:Tn) (cs:List Tn) {av:Option Addr} {cc ib:Nat} (hcv:w.ownsRow ib 129 3 (.slice av cs.length cc) cs.length (De cs)) (hcl:cs.length≤1000000) (h6:¬ m.rels.length=6) (h6l:m.rels.length≤6) (ht:m.taken (BB n.g)=false):Calls prog 337 #[.agg #[.string (AV n.g),.string (BB n.g),.int .i64 n.line,.slice av cs.length cc],.pointer (some ⟨B,0,none⟩)] w fun e w'=>RelTo base B m n (IA m 0 cs) e w'∧∃ T,AA T w w'∧∀ j∈T,base≤j:=by
 obtain ⟨i0,hi0,hz0,hz1,hz2⟩:=info_parts Mu;obtain ⟨i4,hi4,hy0,hy1,hy2⟩:=info_parts iR;obtain ⟨tD,mD,sz,tN,mN,co,cl,ln,cvs,kvs,hV⟩:=h;have kA:=AA.alloc [] w (.cells #[.string (AV n.g),.string (BB n.g),.int .i64 n.line,.slice av cs.length cc] 325);have hA:=AK.new w #[.string (AV n.g),.string (BB n.g),.int .i64 n.line,.slice av cs.length cc] 325;obtain ⟨aD,cD,hD⟩:=Al hV.names.row;have hlen:=AD (fun (w':World) (k:AA [] w w')=>FC (w:=w') (B:=B) (o:=3) (ns:=m.rels.map Prod.fst) (a:=aD) (c:=cD) (by rw [(hV.cells.keeps k).cell,←hD];rfl));have htk:=AD (fun (w':World) (k:AA [] w w')=>HW (hV.cells.keeps k) rfl rfl ((hV.keeps k).doms) ((hV.keeps k).names) (BB n.g));rw [B7,B7] at htk;have ht':((CP m.doms (BB n.g)).isSome || (CP m.rels (BB n.g)).isSome)=false:=ht;rw [ht'] at htk;have hpl:Dp (m.rels.map Prod.fst) (BB n.g)=none:=by
  rw [B7];rw [Bool.or_eq_false_iff] at ht';exact Option.isNone_iff_eq_none.1 (by simpa using ht'.2)
 have hadd:=AD (fun (w':World) (k:AA [] w w')=>Kk (s:=BB n.g) (hV.cells.keeps k) (o:=3) rfl rfl (X:=[B]) (by simp) (fun j hj=>by have e:j=B:=(by simpa using hj);have:=(hV.cells.keeps k).lt;omega) (by have:=k.size;omega) ((hV.keeps k).names) (by rw [AY];omega) hpl);have hplc:=AD (fun (w':World) (k:AA [] w w') (s:ByteArray)=>EP (B:=B) (o:=0) ((hV.keeps k).doms) (by rw [(hV.cells.keeps k).cell];rfl) s);have hBl:=hV.cells.lt;rw [AY] at hlen;have h6I:(((m.rels.length:Nat):Int) == 6)=false:=by rw [beq_eq_false_iff_ne];omega
 have hno:=AD (fun (w:World)=>DZ (w:=w) n 6);have hno2:=AD (fun (w:World)=>DZ (w:=w) n 7);have HV:=AD hV;generalize hR:IA m 0 cs=R;have HR:=AD hR;have Hcv:=AD hcv;clear hV ht ht' hR hcv;go_in
 go_upto_region 1 with fail
 go_cut [] (fun wc=>AA [] w wc∧AK wc w.heap.size #[.string (AV n.g),.string (BB n.g),.int .i64 n.line,.slice av cs.length cc])
 case first=>
  go_region_law (first
   | (refine A2 rfl 254 _ _ rfl _ func254 (by kernel_rfl) (by kernel_rfl) [.pointer (some ⟨B,3,none⟩)] rfl ?_
      refine (hlen.out _ (kA.trans (AA.drew _ _))).mono ?_
      rintro e w1 ⟨rfl,rfl⟩)
   | (refine A2 rfl 335 _ _ rfl _ func335 (by kernel_rfl) (by kernel_rfl) [Da n,.bool false,.int .i64 6] rfl ?_
      refine (hno.out _).mono ?_
      rintro e w1 ⟨rfl,rfl⟩))
  all_goals
   go_wp2_with fail
   go_meet
   exact ⟨(kA.trans (AA.drew _ _)).trans (AA.alloc [] _ _),(hA.keeps (AA.drew [] _)).keeps (AA.alloc [] _ _)⟩
 case rest=>
  obtain ⟨k1,hA1⟩:=hcut;have d0:=hA1.cell 0;have d1:=hA1.cell 1;have d2:=hA1.cell 2;go_upto_region 2 with fail
  go_cut [] (fun wc2=>AA [] w wc2∧AK wc2 w.heap.size #[.string (AV n.g),.string (BB n.g),.int .i64 n.line,.slice av cs.length cc])
  case first=>
   go_region_law (first
    | (refine A2 rfl 336 _ _ rfl _ func336 (by kernel_rfl) (by kernel_rfl) [.pointer (some ⟨B,0,none⟩),.string (BB n.g)] rfl ?_
       refine (htk.out _ (k1.trans (AA.drew _ _))).mono ?_
       rintro e w1 ⟨rfl,rfl⟩)
    | (refine A2 rfl 335 _ _ rfl _ func335 (by kernel_rfl) (by kernel_rfl) [Da n,.bool false,.int .i64 7] rfl ?_
       refine (hno2.out _).mono ?_
       rintro e w1 ⟨rfl,rfl⟩))
   all_goals
    go_wp2_with fail
    go_meet
    exact ⟨(k1.trans (AA.drew _ _)).trans (AA.alloc [] _ _),(hA1.keeps (AA.drew [] _)).keeps (AA.alloc [] _ _)⟩
  case rest=>
   clear d0 d1 d2 hA1 k1 hlen htk hno hno2 kA hA;obtain ⟨k1,hA1⟩:=hcut;have d3:=hA1.cell 3;go_wp2_with fail
   go_loopw [4,28] (fun y x wr=>∃ (i:Nat) (ds:List Nat),x=.int .i64 i∧i=ds.length∧i≤cs.length∧i≤3∧wr.ownsRow (w.heap.size+1) 3 1 y ds.length (Ft ds)∧AA [] w wr∧w.heap.size+1≤wr.heap.size∧AK wr w.heap.size #[.string (AV n.g),.string (BB n.g),.int .i64 n.line,.slice av cs.length cc]∧Pb ds (IA m i (cs.drop i))=R) (fun _ x _=>cs.length - (intOf x).toNat)
   case atStart=>exact ⟨0,[],rfl,rfl,by omega,by omega,World.ownsRow_nil ..,k1,by have:=hA1.lt;omega,hA1,by rw [BV,HR.out];cases R <;> rfl⟩
   case round=>
    clear d3 hA1 k1 HR;obtain ⟨i,ds,rfl,hid,hic,hi3,own,kr,hsz,hAr,hres⟩:=hrel;have Hid1:=AD hid;clear hid;by_cases hil:i<cs.length
    ·obtain ⟨c,hc⟩:∃ c,cs[i]?=some c:=⟨_,AB hil⟩;have hdrop:cs.drop i=c :: cs.drop (i+1):=by
      rw [BT hil];congr 1
      rw [AB hil] at hc;exact Ar hc
     rw [hdrop,IA] at hres;have hcr:=AH Hcv.out kr;obtain ⟨gc,hgc⟩:=Fr hcr (by omega);subst hgc;obtain ⟨tcs,ht1,ht2⟩:=Rd hcr;obtain ⟨t0,t1,t2⟩:=ht2 i c hc;rw [Ag] at t0 t1 t2;have c0:wr.cell? ⟨gc,i * 3,none⟩=some (.string (AV c.g)):=by rw [ht1.cell];exact t0
     have c1:wr.cell? ⟨gc,i * 3+1,none⟩=some (.string (BB c.g)):=by rw [ht1.cell];exact t1
     have c2:wr.cell? ⟨gc,i * 3+2,none⟩=some (.int .i64 c.line):=by rw [ht1.cell];exact t2
     have hgl:=ht1.lt;have hiI:(i:Int)<cs.length:=(by omega);have kT:=AA.alloc [] wr (.cells #[.string (AV c.g),.string (BB c.g),.int .i64 c.line] 129);have hTk:=AK.new wr #[.string (AV c.g),.string (BB c.g),.int .i64 c.line] 129;clear t0 t1 t2 ht1 ht2 hcr hdrop hc;by_cases h3:i=3
     ·rw [if_pos h3] at hres;have Hres:=AD hres;have q3:((i:Int) == 3)=true:=by rw [h3];rfl
      have hy:=AD (fun (w:World)=>DT (w:=w) c 6);clear hres h3;go_wp2_with fail
      refine (hy.out _).mono ?_;rintro e w3 ⟨rfl,rfl⟩;exact ⟨rfl,by rw [←Hres.out];rfl,[],(kr.trans kT).trans (AA.alloc [] _ _),by simp⟩
     ·rw [if_neg h3] at hres;have q3:((i:Int) == 3)=false:=by rw [beq_eq_false_iff_ne];omega
      have hn6:=AD (fun (w:World)=>DZ (w:=w) c 6);have k2:=(kr.trans kT).trans (AA.alloc [] (wr.alloc (.cells #[.string (AV c.g),.string (BB c.g),.int .i64 c.line] 129)) (.cells #[.string (AV c.g),.string (BB c.g),.int .i64 c.line] 129));have hTk2:=hTk.keeps (AA.alloc [] (wr.alloc (.cells #[.string (AV c.g),.string (BB c.g),.int .i64 c.line] 129)) (.cells #[.string (AV c.g),.string (BB c.g),.int .i64 c.line] 129));have hAr2:=(hAr.keeps kT).keeps (AA.alloc [] (wr.alloc (.cells #[.string (AV c.g),.string (BB c.g),.int .i64 c.line] 129)) (.cells #[.string (AV c.g),.string (BB c.g),.int .i64 c.line] 129));have own2:=(AH (AH own kT) (AA.alloc [] (wr.alloc (.cells #[.string (AV c.g),.string (BB c.g),.int .i64 c.line] 129)) (.cells #[.string (AV c.g),.string (BB c.g),.int .i64 c.line] 129)));clear h3;go_wp2_with fail
      refine (hn6.out _).mono ?_;rintro e w3 ⟨rfl,rfl⟩;have hsz3:w.heap.size+1≤((wr.alloc (.cells #[.string (AV c.g),.string (BB c.g),.int .i64 c.line] 129)).alloc (.cells #[.string (AV c.g),.string (BB c.g),.int .i64 c.line] 129)).heap.size:=by rw [AX,AX];omega
      generalize hW:((wr.alloc (.cells #[.string (AV c.g),.string (BB c.g),.int .i64 c.line] 129)).alloc (.cells #[.string (AV c.g),.string (BB c.g),.int .i64 c.line] 129))=W at *;have e0:=hTk2.cell 0;have e1:=hTk2.cell 1;have e2:=hTk2.cell 2;clear hW kT hTk hn6 c0 c1 c2 own hAr kr;go_wp2_with fail
      go_region_law (first
       | (refine A2 rfl 77 _ _ rfl _ func77 (by kernel_rfl) (by kernel_rfl) [.pointer (some ⟨B,0,none⟩),.string (BB c.g)] rfl ?_
          refine (hplc.out _ (k2.trans (AA.drew _ _)) (BB c.g)).mono ?_
          rintro e w4 ⟨rfl,rfl⟩))
      rw [B7];cases hdm:m.dom (BB c.g) with
      | none=>
       rw [hdm] at hres;have hdm':CP m.doms (BB c.g)=none:=hdm;rw [hdm'];have Hres:=AD hres;have hy:=AD (fun (w:World)=>DT (w:=w) c 8);clear hres hdm hdm';go_wp2_with fail
       refine (hy.out _).mono ?_;rintro e w5 ⟨rfl,rfl⟩;exact ⟨rfl,by rw [←Hres.out];rfl,[],(k2.trans (AA.drew _ _)).trans (AA.alloc [] _ _),by simp⟩
      | some dm=>
       rw [hdm] at hres;have hdm':CP m.doms (BB c.g)=some dm:=hdm;rw [hdm'];have hah:Pb (ds++[dm]) (IA m (i+1) (cs.drop (i+1)))=R:=by
        rw [←hres]
        show _=Pb ds (match IA m (i+1) (cs.drop (i+1)) with
         | .error f=>Except.error f
         | .ok r=>.ok (dm :: r))
        cases IA m (i+1) (cs.drop (i+1)) with
        | error f=>rfl
        | ok r=>simp [Pb]
       have Hah:=AD hah;have hn8:=AD (fun (w:World)=>DZ (w:=w) c 8)
       have hi2:i+1≤3:=by have:i≠3:=by intro e;rw [e] at q3;cases q3
                          omega
       clear hres hah hdm hdm';go_wp2_with fail
       refine (hn8.out _).mono ?_;rintro e w5 ⟨rfl,rfl⟩;have k5:=(k2.trans (AA.drew [] W)).trans (AA.alloc [] W.drew (.cells #[.string (AV c.g),.string (BB c.g),.int .i64 c.line] 129));have kW:AA [] W (W.drew.alloc (.cells #[.string (AV c.g),.string (BB c.g),.int .i64 c.line] 129)):=(AA.drew [] W).trans (AA.alloc [] W.drew _);have own5:=AH own2 kW;have hAr5:=hAr2.keeps kW;have hsz5:w.heap.size+1≤(W.drew.alloc (.cells #[.string (AV c.g),.string (BB c.g),.int .i64 c.line] 129)).heap.size:=At hsz3 kW.size;generalize hW5:W.drew.alloc (.cells #[.string (AV c.g),.string (BB c.g),.int .i64 c.line] 129)=W5 at *;obtain ⟨ay,cy,hy⟩:=Al own5;subst hy;have kB:=AA.alloc [] W5 (.cells #[.int .i64 (dm:Int)] 3);have ownB:=AH own5 kB;have Hid2:=Hid1.out;have hdl:ds.length≤3:=(by omega);clear Hid2 hW5 kW own2 hAr2 k2 hTk2 e0 e1 e2 hn8;go_wp2_with (at_builtin;refine wpList_append_own_at _ rfl _ _ 40 rfl (w.heap.size+1) 3 i0 (.int .i64 0) 1 8 underlying40 hi0 hz0 hz1 hz2 rfl (by decide) _ ds.length (Ft ds) rfl ownB ⟨W5.heap.size,0,none⟩ 1 1 [.int .i64 (dm:Int)] rfl (by simp) Xa (by simp [Value.oneCell']) (by unfold maxLen;omega) (by omega) (by rw [AX];omega) ?_)
       intro v' W6 own6 grow6 nil6 at6;have k6:=grownBy_keeps' grow6 (Value.slice ay ds.length cy).ownBlock.toList (fun r e=>.inl (by simp [e]));have hl6:∀ j∈(Value.slice ay ds.length cy).ownBlock.toList,w.heap.size+1≤j:=fun j hj=>(As own5 j (by simpa using hj)).1;have kf:AA [] w W6:=(k5.trans kB).trans_new k6 fun j hj=>.inr (by have:=hl6 j hj;omega);have hAr6:=(hAr5.keeps kB).keeps k6 (fun hx=>by have:=hl6 _ hx;omega);have hsz6:w.heap.size+1≤W6.heap.size:=by have:=kB.size;have:=k6.size;omega
       have HA6:=AD hAr6;clear hAr6 hAr5 grow6 at6 nil6 ownB own5;go_wp2_with fail
       go_roundw
       ·exact ⟨i+1,ds++[dm],by simp,by rw [AJ,Ah,←Hid1.out],by omega,hi2,by rw [Ft,Am,AJ,Ah];exact own6,kf,hsz6,HA6.out,Hah.out⟩
       ·simp only [intOf];omega
    ·have hiI:¬ (i:Int)<cs.length:=(by omega);have hdz:cs.drop i=[]:=Bq (by omega);rw [hdz,IA] at hres;simp only [Pb,BR] at hres;have Hres:=AD hres;obtain ⟨yc,cyc,hyc⟩:=Al own;subst hyc;have c1:=hAr.cell 1;have Hown:=AD own;clear hres hdz hplc own;go_upto_region 12 with fail
     go_cut [] (fun wx=>∃ wy,AA [] wr wy∧Po wy base [B] B 3 #[tD,mD,sz,tN,mN,co,cl,ln] tN mN (m.rels.map Prod.fst) (BB n.g) wx)
     case first=>
      go_region_law (first
       | (refine A2 rfl 72 _ _ rfl _ func72 (by kernel_rfl) (by kernel_rfl) [.pointer (some ⟨B,3,none⟩),.string (BB n.g)] rfl ?_
          refine (hadd.out _ (kr.trans (AA.drew _ _))).mono ?_
          rintro e w4 ⟨rfl,hAd⟩))
      all_goals
       go_wp2_with fail
       go_meet
       exact ⟨_,AA.drew _ _,hAd⟩
     case rest=>
      obtain ⟨wy,kwy,hAd⟩:=hcut;have ky:=kr.trans kwy;have hVy:=HV.out.keeps ky;have hrow:=AH Hown.out kwy;obtain ⟨tv',mv',hcells,hset,hown',hmap'⟩:=hAd.set;obtain ⟨T,kT,hT⟩:=hAd.keep;have hT':∀ j∈T,j∈[B]++(Aa tN++mapL mN):=fun j hj=>by
       rcases hT j hj with h | h | h
       ·simp [h]
       ·have h2:tN.ownBlock=some j:=h;simp [Aa,h2]
       ·have h2:mN=.map (some j):=h;simp [mapL,h2]
      have hcells':AK wc B #[tD,mD,sz,tv',mv',co,cl,ln]:=hcells;have hfy:=hVy.foot;have hfl:=hVy.foot_lt;have hszT:∀ j∈Aa co,j∉T:=fun j hj hjT=>by
       have h1:=hT' j hjT;have h2:((J8 B tD mD sz++Aa tN++mapL mN)++Aa co++(Aa cl++Aa ln)).Nodup:=by rw [KE] at hfy;simpa using hfy
       refine ((Cn h2).1 j hj).1 ?_;simp at h1;rcases h1 with q | q | q <;> simp [J8,q]
      have hsz:=AH hVy.cols kT (fun j hj=>hszT j (by simp [Aa,hj]));obtain ⟨aS,cS,hS⟩:=Al hsz;subst hS;have hTlt:∀ j∈T,j<w.heap.size:=fun j hj=>(HV.out.foot_lt j (by have:=hT' j hj;simp at this;rcases this with q | q | q <;> simp [Do,q])).2;have hrowc:=AH hrow kT (fun j hj hx=>by have:=(As hrow j hj).1;have:=hTlt j hx;omega);have d2:=hcells'.cell 5;have hBc:=hcells'.lt;have kA4:=AA.alloc [] wc (.cells #[.slice yc ds.length cyc] 40);have ownB:=AH hsz kA4;have hsy:=ky.size;have hsT:=kT.size;have hswy:=kwy.size;clear hadd hAd hcells hT;go_wp2_with (at_builtin;refine wpList_append_own_at _ rfl _ _ 37 rfl base 40 i4 (.slice none 0 0) 1 24 underlying37 hi4 hy0 hy1 hy2 rfl (by decide) _ m.rels.length cvs rfl ownB ⟨wc.heap.size,0,none⟩ 1 1 [.slice yc ds.length cyc] rfl (by simp) Xa (by simp [Value.oneCell']) (by unfold maxLen;omega) (by omega) (by rw [AX];omega) ?_)
      intro v' W2 own4 grow4 nil4 at4;have k4:=grownBy_keeps' grow4 (Aa (.slice aS m.rels.length cS)) (fun r e=>.inl (by simp [Aa,e]));obtain ⟨gg,cap,rfl⟩:=EL own4;have hBco:B∉Aa (.slice aS m.rels.length cS):=fun hx=>by
       have h2:((J8 B tD mD sz)++(Aa tN++mapL mN++Aa (.slice aS m.rels.length cS))++(Aa cl++Aa ln)).Nodup:=by rw [KE] at hfy;exact hfy
       exact ((Cn h2).1 B (AT _ hx)).1 (by simp [J8])
      have hB4:=(hcells'.keeps kA4).keeps k4 hBco;have e2:=hB4.cell 5;have f2:=hB4.frozen 5;have Hown4:=AD own4;have Hk4:=AD k4;have HB4:=AD hB4;clear own4 grow4 nil4 k4 hB4;go_wp2_with fail
      go_end0
      have hfD:=hfy;rw [KE] at hfD;have hAp:=Cn hfD;have hDM:∀ j∈Aa (.slice aS m.rels.length cS),j∉Aa tN∧j∉mapL mN:=fun j hj=>by
       have h2:((J8 B tD mD sz++Aa tN++mapL mN)++Aa (.slice aS m.rels.length cS)++(Aa cl++Aa ln)).Nodup:=(by simpa using hfD);have h3:=((Cn h2).1 j hj).1;exact ⟨fun q=>h3 (by simp [q]),fun q=>h3 (by simp [q])⟩
      have hszl:∀ j∈Aa (.slice aS m.rels.length cS),base≤j∧j<w.heap.size:=fun j hj=>HV.out.foot_lt j (by simp [Do,hj]);have htl:∀ j∈Aa tv',j∈Aa tN∨wy.heap.size≤j:=fun j hj=>by
       rcases hown' j (by simpa [Aa] using hj) with h | h
       ·left;have h2:tN.ownBlock=some j:=h;simp [Aa,h2]
       ·exact .inr h
      have hml:∀ j∈mapL mv',j∈mapL mN∨wy.heap.size≤j:=fun j hj=>by
       have e:mv' = .map (some j):=by
        unfold mapL at hj;split at hj
        ·have e:j=_:=(by simpa using hj);rw [e]
        ·cases hj
       rcases hmap' j e with h | h
       ·left;have h2:mN=.map (some j):=h;simp [mapL,h2]
       ·exact .inr h
      have hts:∀ j∈Aa tv',j∉Aa (.slice aS m.rels.length cS):=fun j hj hs=>by
       rcases htl j hj with h | h
       ·exact (hDM j hs).1 h
       ·have:=(hszl j hs).2;omega
      have hms:∀ j∈mapL mv',j∉Aa (.slice aS m.rels.length cS):=fun j hj hs=>by
       rcases hml j hj with h | h
       ·exact (hDM j hs).2 h
       ·have:=(hszl j hs).2;omega
      have hgg:gg∈Aa (.slice aS m.rels.length cS)∨gg=wc.heap.size+1:=by
       rcases at4 with h | h
       ·left;simp only [Aa];rw [←h];simp [Value.ownBlock]
       ·right;simpa [Value.ownBlock] using h
      have htw:∀ j∈Aa tv',j<wc.heap.size:=fun j hj=>(DJ hset.row j hj).2;have hmw:∀ j∈mapL mv',j<wc.heap.size:=fun j hj=>(H6 hset j hj).2;have hggB:gg≠B:=by
       rcases hgg with h | h
       ·intro e;exact hBco (by rw [←e];exact h)
       ·omega
      have ks:=AA.setCell W2 ⟨B,5,none⟩ (.slice (some ⟨gg,0,none⟩) (m.rels.length+1) cap)
      have kall:AA ([B]++(Aa tN++mapL mN++Aa (.slice aS m.rels.length cS))) wy (W2.setCell ⟨B,5,none⟩ (.slice (some ⟨gg,0,none⟩) (m.rels.length+1) cap)):=
       (((kT.mono (fun i hi=>by have:=hT' i hi;simp at this ⊢;rcases this with q | q | q <;> simp [q])).trans (kA4.mono (by simp))).trans (Hk4.out.mono (fun i hi=>by simp [hi]))).trans (ks.mono (by simp))
      have k5:AA (Aa (.slice aS m.rels.length cS)++[B]) wc (W2.setCell ⟨B,5,none⟩ (.slice (some ⟨gg,0,none⟩) (m.rels.length+1) cap)):=((kA4.mono (by simp)).trans (Hk4.out.mono (fun i hi=>by simp [hi]))).trans (ks.mono (by simp))
      have hsetF:=hset.kept k5 (fun j hj hx=>by
       rcases AC.1 hx with h | h
       ·exact hts j hj h
       ·exact hset.rowA j (by simpa [Aa] using hj) h) (fun j hj hx=>by
       rcases AC.1 hx with h | h
       ·exact hms j hj h
       ·rcases hset.map with ⟨q,_⟩ | ⟨r,q,_,_,q4,_⟩
        ·rw [q] at hj;simp [mapL] at hj
        ·rw [q] at hj;simp [mapL] at hj;subst hj;exact q4 h)
      have hzF:=AH Hown4.out ks (fun j hj hx=>by
       have e1:j=B:=(by simpa using hx);have e2:gg=j:=(by simpa [Value.ownBlock] using hj)
       exact hggB (by rw [e2,e1]))
      have hcl5:∀ j∈Aa (.slice yc ds.length cyc),w.heap.size+1≤j∧j<wy.heap.size:=fun j hj=>DJ hrow j hj
      have hrowF:=BZ (base':=base) (AH hrowc k5 (fun j hj hx=>by
       have h1:=(hcl5 j (by simp [Aa,hj])).1;rcases AC.1 hx with h | h
       ·have:=(hszl j h).2;omega
       ·have e:j=B:=(by simpa using h);omega)) (by omega)
      refine ⟨?_,[B]++(Aa tN++mapL mN++Aa (.slice aS m.rels.length cS)),(ky.mono (by simp)).trans kall,fun j hj=>(HV.out.foot_lt j (by simp at hj;rcases hj with q | q | q | q <;> simp [Do,q])).1⟩;rw [←Hres.out];refine ⟨rfl,hVy.addRel kall (fun j hj=>.inl hj) (HB4.out.setCell 5 _) hsetF hzF hrowF (fun j hj hx=>?_) (fun j hj=>?_) ?_⟩
      ·have h1:=hcl5 j hj;rw [KE] at hx;rcases AC.1 hx with h | h
       ·rcases AC.1 h with h | h
        ·have:=(HV.out.foot_lt j (by rw [KE];exact AN _ (AN _ h))).2;omega
        ·rcases AC.1 h with h | h
         ·rcases AC.1 h with h | h
          ·rcases htl j h with q | q
           ·have:=(HV.out.foot_lt j (by simp [Do,q])).2;omega
           ·omega
          ·rcases hml j h with q | q
           ·have:=(HV.out.foot_lt j (by simp [Do,q])).2;omega
           ·omega
         ·have e:j=gg:=(by simpa [Aa,Value.ownBlock] using h);rcases hgg with q | q
          ·have:=(hszl gg q).2;omega
          ·omega
       ·have:=(HV.out.foot_lt j (by rw [KE];exact AT _ h)).2;omega
      ·rcases AC.1 hj with h | h
       ·rcases AC.1 h with h | h
        ·rcases htl j h with q | q
         ·left;simp [q]
         ·exact .inr q
        ·rcases hml j h with q | q
         ·left;simp [q]
         ·exact .inr q
       ·have e:j=gg:=(by simpa [Aa,Value.ownBlock] using h);rcases hgg with q | q
        ·left;rw [e];simp [q]
        ·right;omega
      ·rw [BJ,BJ];refine ⟨⟨GE _,LV _,fun a ha b hb e=>?_⟩,GE _,fun a ha b hb e=>?_⟩
       ·subst e;rcases hset.map with ⟨q,_⟩ | ⟨r,q,_,_,_,q5⟩
        ·rw [q] at hb;simp [mapL] at hb
        ·rw [q] at hb;simp [mapL] at hb;subst hb;exact q5 (by simpa [Aa] using ha)
       ·subst e;have e2:a=gg:=(by simpa [Aa,Value.ownBlock] using hb);subst e2;rcases hgg with q | q
        ·rcases AC.1 ha with h | h
         ·exact hts a h q
         ·exact hms a h q
        ·rcases AC.1 ha with h | h
         ·have:=htw a h;omega
         ·have:=hmw a h;omega
end
end Go.Proofs.YtgjomknpjigkhaaGreatDoor
