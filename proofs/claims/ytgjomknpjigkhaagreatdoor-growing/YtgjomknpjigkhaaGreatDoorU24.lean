import Derived.Test.YtgjomknpjigkhaaGreatDoorU18
namespace Go.Proofs.YtgjomknpjigkhaaGreatDoor
open Go.Proofs.Tryz
set_option maxRecDepth 100000
set_option maxHeartbeats 4000000
section
open Go.RowKit
theorem info40E:(prog.info? 40).map (fun i=>(i.zero,i.size,i.bytes))=some (some (.slice none 0 0),1,24):=by kernel_rfl
theorem row_one {W:World} {x:Value} {t:TypeId}:∀ (j:Nat) (u:Value),[x][j]?=some u→(W.alloc (.cells #[x] t)).cell? ((⟨W.heap.size,0,none⟩:Addr).add j)=some u:=by
 intro j u hu;rw [Addr.add_lit,Nat.zero_add,(cQA.new W #[x] t).cell];match j with
 | 0=>simpa using hu
 | j+1=>simp at hu
theorem zQD {w:World} {base:Nat} {e:TypeId} {size n c:Nat} {a:Option Addr} {xs:List Value} (h:w.ownsRow base e size (.slice a n c) n xs) (hn:0<n):∃ g,a=some ⟨g,0,none⟩:=by
 rcases h.2 with ⟨h1,h2⟩ | ⟨g,cap,cur,h1,_⟩
 ·omega
 ·cases h1;exact ⟨g,rfl⟩
def aheadN (d:List Nat):Except Flt (List Nat)→Except Flt (List Nat)
 | .ok r=>.ok (d++r)
 | .error f=>.error f
def RelTo (base B:Nat) (m:Mean) (n:Tn) (R:Except Flt (List Nat)) (e:Ending) (w':World):Prop:=match R with
 | .error f=>e=gQC f.1 f.2
 | .ok ds=>e=.returned (.tuple #[])∧jQB w' base B { m with rels:=m.rels++[(txt n.g,ds)] }
set_option maxHeartbeats 8000000 in
theorem rel_rest {w:World} {base B:Nat} {m:Mean} (h:jQB w base B m) (hbase:base≤w.heap.size) (n:Tn) (cs:List Tn) {av:Option Addr} {cc ib:Nat} (hcv:w.ownsRow ib 129 3 (.slice av cs.length cc) cs.length (hQD cs)) (hcl:cs.length≤1000000) (h6:¬ m.rels.length=6) (h6l:m.rels.length≤6) (ht:m.taken (txt n.g)=false):Calls prog 337 #[.agg #[.string (eQA n.g),.string (txt n.g),.int .i64 n.line,.slice av cs.length cc],.pointer (some ⟨B,0,none⟩)] w fun e w'=>RelTo base B m n (colsS m 0 cs) e w'∧∃ T,aQA T w w'∧∀ j∈T,base≤j:=by
 obtain ⟨i0,hi0,hz0,hz1,hz2⟩:=info_parts info3E;obtain ⟨i4,hi4,hy0,hy1,hy2⟩:=info_parts info40E;obtain ⟨tD,mD,sz,tN,mN,co,cl,ln,cvs,kvs,hV⟩:=h;have kA:=aQA.alloc [] w (.cells #[.string (eQA n.g),.string (txt n.g),.int .i64 n.line,.slice av cs.length cc] 325);have hA:=cQA.new w #[.string (eQA n.g),.string (txt n.g),.int .i64 n.line,.slice av cs.length cc] 325;obtain ⟨aD,cD,hD⟩:=fQA hV.names.row;have hlen:=hide (fun (w':World) (k:aQA [] w w')=>aQF (w:=w') (B:=B) (o:=3) (ns:=m.rels.map Prod.fst) (a:=aD) (c:=cD) (by rw [(hV.cells.keeps k (by simp)).cell,←hD];rfl));have htk:=hide (fun (w':World) (k:aQA [] w w')=>jQI (hV.cells.keeps k (by simp)) rfl rfl ((hV.keeps k (by simp)).doms) ((hV.keeps k (by simp)).names) (txt n.g));rw [vQA,vQA] at htk;have ht':((yQB m.doms (txt n.g)).isSome || (yQB m.rels (txt n.g)).isSome)=false:=ht;rw [ht'] at htk;have hpl:bQD (m.rels.map Prod.fst) (txt n.g)=none:=by
  rw [vQA];rw [Bool.or_eq_false_iff] at ht';exact Option.isNone_iff_eq_none.1 (by simpa using ht'.2)
 have hadd:=hide (fun (w':World) (k:aQA [] w w')=>add_calls (s:=txt n.g) (hV.cells.keeps k (by simp)) (o:=3) rfl rfl (X:=[B]) (by simp) (fun j hj=>by have e:j=B:=(by simpa using hj);have:=(hV.cells.keeps k (by simp)).lt;omega) (by have:=k.size;omega) ((hV.keeps k (by simp)).names) (by rw [List.length_map];omega) hpl);have hplc:=hide (fun (w':World) (k:aQA [] w w') (s:ByteArray)=>iQD (B:=B) (o:=0) ((hV.keeps k (by simp)).doms) (by rw [(hV.cells.keeps k (by simp)).cell];rfl) s);have hBl:=hV.cells.lt;rw [List.length_map] at hlen;have h6I:(((m.rels.length:Nat):Int) == 6)=false:=by rw [beq_eq_false_iff_ne];omega
 have hno:=hide (fun (w:World)=>iQC (w:=w) n 6);have hno2:=hide (fun (w:World)=>iQC (w:=w) n 7);have HV:=hide hV;generalize hR:colsS m 0 cs=R;have HR:=hide hR;have Hcv:=hide hcv;clear hV ht ht' hR hcv;go_enter func337,ntmps337
 go_upto_region 1 with fail
 go_cut [] (fun wc=>aQA [] w wc∧cQA wc w.heap.size #[.string (eQA n.g),.string (txt n.g),.int .i64 n.line,.slice av cs.length cc])
 case first=>
  go_region_law (first
   | (refine kQA rfl 254 _ _ rfl _ func254 (by kernel_rfl) (by kernel_rfl) [.pointer (some ⟨B,3,none⟩)] rfl ?_
      refine (hlen.out _ (kA.trans (aQA.drew _ _))).mono ?_
      rintro e w1 ⟨rfl,rfl⟩)
   | (refine kQA rfl 335 _ _ rfl _ func335 (by kernel_rfl) (by kernel_rfl) [tokV n,.bool false,.int .i64 6] rfl ?_
      refine (hno.out _).mono ?_
      rintro e w1 ⟨rfl,rfl⟩))
  all_goals
   go_wp2_with fail
   go_meet
   exact ⟨(kA.trans (aQA.drew _ _)).trans (aQA.alloc [] _ _),(hA.keeps (aQA.drew [] _) (by simp)).keeps (aQA.alloc [] _ _) (by simp)⟩
 case rest=>
  obtain ⟨k1,hA1⟩:=hcut;have d0:=hA1.cell 0;have d1:=hA1.cell 1;have d2:=hA1.cell 2;go_upto_region 2 with fail
  go_cut [] (fun wc2=>aQA [] w wc2∧cQA wc2 w.heap.size #[.string (eQA n.g),.string (txt n.g),.int .i64 n.line,.slice av cs.length cc])
  case first=>
   go_region_law (first
    | (refine kQA rfl 336 _ _ rfl _ func336 (by kernel_rfl) (by kernel_rfl) [.pointer (some ⟨B,0,none⟩),.string (txt n.g)] rfl ?_
       refine (htk.out _ (k1.trans (aQA.drew _ _))).mono ?_
       rintro e w1 ⟨rfl,rfl⟩)
    | (refine kQA rfl 335 _ _ rfl _ func335 (by kernel_rfl) (by kernel_rfl) [tokV n,.bool false,.int .i64 7] rfl ?_
       refine (hno2.out _).mono ?_
       rintro e w1 ⟨rfl,rfl⟩))
   all_goals
    go_wp2_with fail
    go_meet
    exact ⟨(k1.trans (aQA.drew _ _)).trans (aQA.alloc [] _ _),(hA1.keeps (aQA.drew [] _) (by simp)).keeps (aQA.alloc [] _ _) (by simp)⟩
  case rest=>
   clear d0 d1 d2 hA1 k1 hlen htk hno hno2 kA hA;obtain ⟨k1,hA1⟩:=hcut;have d3:=hA1.cell 3;go_wp2_with fail
   go_loopw [4,28] (fun y x wr=>∃ (i:Nat) (ds:List Nat),x=.int .i64 i∧i=ds.length∧i≤cs.length∧i≤3∧wr.ownsRow (w.heap.size+1) 3 1 y ds.length (oQI ds)∧aQA [] w wr∧w.heap.size+1≤wr.heap.size∧cQA wr w.heap.size #[.string (eQA n.g),.string (txt n.g),.int .i64 n.line,.slice av cs.length cc]∧aheadN ds (colsS m i (cs.drop i))=R) (fun _ x _=>cs.length - (intOf x).toNat)
   case atStart=>exact ⟨0,[],rfl,rfl,by omega,by omega,World.ownsRow_nil ..,k1,by have:=hA1.lt;omega,hA1,by rw [List.drop_zero,HR.out];cases R <;> rfl⟩
   case round=>
    clear d3 hA1 k1 HR;obtain ⟨i,ds,rfl,hid,hic,hi3,own,kr,hsz,hAr,hres⟩:=hrel;have Hid1:=hide hid;clear hid;by_cases hil:i<cs.length
    ·obtain ⟨c,hc⟩:∃ c,cs[i]?=some c:=⟨_,List.getElem?_eq_getElem hil⟩;have hdrop:cs.drop i=c :: cs.drop (i+1):=by
      rw [List.drop_eq_getElem_cons hil];congr 1
      rw [List.getElem?_eq_getElem hil] at hc;exact Option.some.inj hc
     rw [hdrop,colsS] at hres;have hcr:=bQA Hcv.out kr (by simp);obtain ⟨gc,hgc⟩:=zQD hcr (by omega);subst hgc;obtain ⟨tcs,ht1,ht2⟩:=rowPTok hcr;obtain ⟨t0,t1,t2⟩:=ht2 i c hc;rw [Nat.zero_add] at t0 t1 t2;have c0:wr.cell? ⟨gc,i * 3,none⟩=some (.string (eQA c.g)):=by rw [ht1.cell];exact t0
     have c1:wr.cell? ⟨gc,i * 3+1,none⟩=some (.string (txt c.g)):=by rw [ht1.cell];exact t1
     have c2:wr.cell? ⟨gc,i * 3+2,none⟩=some (.int .i64 c.line):=by rw [ht1.cell];exact t2
     have hgl:=ht1.lt;have hiI:(i:Int)<cs.length:=(by omega);have kT:=aQA.alloc [] wr (.cells #[.string (eQA c.g),.string (txt c.g),.int .i64 c.line] 129);have hTk:=cQA.new wr #[.string (eQA c.g),.string (txt c.g),.int .i64 c.line] 129;clear t0 t1 t2 ht1 ht2 hcr hdrop hc;by_cases h3:i=3
     ·rw [if_pos h3] at hres;have Hres:=hide hres;have q3:((i:Int) == 3)=true:=by rw [h3];rfl
      have hy:=hide (fun (w:World)=>dQC (w:=w) c 6);clear hres h3;go_wp2_with fail
      refine (hy.out _).mono ?_;rintro e w3 ⟨rfl,rfl⟩;exact ⟨rfl,by rw [←Hres.out];rfl,[],(kr.trans kT).trans (aQA.alloc [] _ _),by simp⟩
     ·rw [if_neg h3] at hres;have q3:((i:Int) == 3)=false:=by rw [beq_eq_false_iff_ne];omega
      have hn6:=hide (fun (w:World)=>iQC (w:=w) c 6);have k2:=(kr.trans kT).trans (aQA.alloc [] (wr.alloc (.cells #[.string (eQA c.g),.string (txt c.g),.int .i64 c.line] 129)) (.cells #[.string (eQA c.g),.string (txt c.g),.int .i64 c.line] 129));have hTk2:=hTk.keeps (aQA.alloc [] (wr.alloc (.cells #[.string (eQA c.g),.string (txt c.g),.int .i64 c.line] 129)) (.cells #[.string (eQA c.g),.string (txt c.g),.int .i64 c.line] 129)) (by simp);have hAr2:=(hAr.keeps kT (by simp)).keeps (aQA.alloc [] (wr.alloc (.cells #[.string (eQA c.g),.string (txt c.g),.int .i64 c.line] 129)) (.cells #[.string (eQA c.g),.string (txt c.g),.int .i64 c.line] 129)) (by simp);have own2:=(bQA (bQA own kT (by simp)) (aQA.alloc [] (wr.alloc (.cells #[.string (eQA c.g),.string (txt c.g),.int .i64 c.line] 129)) (.cells #[.string (eQA c.g),.string (txt c.g),.int .i64 c.line] 129)) (by simp));clear h3;go_wp2_with fail
      refine (hn6.out _).mono ?_;rintro e w3 ⟨rfl,rfl⟩;have hsz3:w.heap.size+1≤((wr.alloc (.cells #[.string (eQA c.g),.string (txt c.g),.int .i64 c.line] 129)).alloc (.cells #[.string (eQA c.g),.string (txt c.g),.int .i64 c.line] 129)).heap.size:=by rw [dQA,dQA];omega
      generalize hW:((wr.alloc (.cells #[.string (eQA c.g),.string (txt c.g),.int .i64 c.line] 129)).alloc (.cells #[.string (eQA c.g),.string (txt c.g),.int .i64 c.line] 129))=W at *;have e0:=hTk2.cell 0;have e1:=hTk2.cell 1;have e2:=hTk2.cell 2;clear hW kT hTk hn6 c0 c1 c2 own hAr kr;go_wp2_with fail
      go_region_law (first
       | (refine kQA rfl 77 _ _ rfl _ func77 (by kernel_rfl) (by kernel_rfl) [.pointer (some ⟨B,0,none⟩),.string (txt c.g)] rfl ?_
          refine (hplc.out _ (k2.trans (aQA.drew _ _)) (txt c.g)).mono ?_
          rintro e w4 ⟨rfl,rfl⟩))
      rw [vQA];cases hdm:m.dom (txt c.g) with
      | none=>
       rw [hdm] at hres;have hdm':yQB m.doms (txt c.g)=none:=hdm;rw [hdm'];have Hres:=hide hres;have hy:=hide (fun (w:World)=>dQC (w:=w) c 8);clear hres hdm hdm';go_wp2_with fail
       refine (hy.out _).mono ?_;rintro e w5 ⟨rfl,rfl⟩;exact ⟨rfl,by rw [←Hres.out];rfl,[],(k2.trans (aQA.drew _ _)).trans (aQA.alloc [] _ _),by simp⟩
      | some dm=>
       rw [hdm] at hres;have hdm':yQB m.doms (txt c.g)=some dm:=hdm;rw [hdm'];have hah:aheadN (ds++[dm]) (colsS m (i+1) (cs.drop (i+1)))=R:=by
        rw [←hres]
        show _=aheadN ds (match colsS m (i+1) (cs.drop (i+1)) with
         | .error f=>Except.error f
         | .ok r=>.ok (dm :: r))
        cases colsS m (i+1) (cs.drop (i+1)) with
        | error f=>rfl
        | ok r=>simp [aheadN]
       have Hah:=hide hah;have hn8:=hide (fun (w:World)=>iQC (w:=w) c 8)
       have hi2:i+1≤3:=by have:i≠3:=by intro e;rw [e] at q3;cases q3
                          omega
       clear hres hah hdm hdm';go_wp2_with fail
       refine (hn8.out _).mono ?_;rintro e w5 ⟨rfl,rfl⟩;have k5:=(k2.trans (aQA.drew [] W)).trans (aQA.alloc [] W.drew (.cells #[.string (eQA c.g),.string (txt c.g),.int .i64 c.line] 129));have kW:aQA [] W (W.drew.alloc (.cells #[.string (eQA c.g),.string (txt c.g),.int .i64 c.line] 129)):=(aQA.drew [] W).trans (aQA.alloc [] W.drew _);have own5:=bQA own2 kW (by simp);have hAr5:=hAr2.keeps kW (by simp);have hsz5:w.heap.size+1≤(W.drew.alloc (.cells #[.string (eQA c.g),.string (txt c.g),.int .i64 c.line] 129)).heap.size:=Nat.le_trans hsz3 kW.size;generalize hW5:W.drew.alloc (.cells #[.string (eQA c.g),.string (txt c.g),.int .i64 c.line] 129)=W5 at *;obtain ⟨ay,cy,hy⟩:=fQA own5;subst hy;have kB:=aQA.alloc [] W5 (.cells #[.int .i64 (dm:Int)] 3);have ownB:=bQA own5 kB (by simp);have Hid2:=Hid1.out;have hdl:ds.length≤3:=(by omega);clear Hid2 hW5 kW own2 hAr2 k2 hTk2 e0 e1 e2 hn8;go_wp2_with (at_builtin;refine wpList_append_own_at _ rfl _ _ 40 rfl (w.heap.size+1) 3 i0 (.int .i64 0) 1 8 underlying40 hi0 hz0 hz1 hz2 rfl (by decide) _ ds.length (oQI ds) rfl ownB ⟨W5.heap.size,0,none⟩ 1 1 [.int .i64 (dm:Int)] rfl (by simp) row_one (by simp [Value.oneCell']) (by unfold maxLen;omega) (by omega) (by rw [dQA];omega) ?_)
       intro v' W6 own6 grow6 nil6 at6;have k6:=grownBy_keeps' grow6 (Value.slice ay ds.length cy).ownBlock.toList (fun r e=>.inl (by simp [e]));have hl6:∀ j∈(Value.slice ay ds.length cy).ownBlock.toList,w.heap.size+1≤j:=fun j hj=>(hQA own5 j (by simpa using hj)).1;have kf:aQA [] w W6:=(k5.trans kB).trans_new k6 fun j hj=>.inr (by have:=hl6 j hj;omega);have hAr6:=(hAr5.keeps kB (by simp)).keeps k6 (fun hx=>by have:=hl6 _ hx;omega);have hsz6:w.heap.size+1≤W6.heap.size:=by have:=kB.size;have:=k6.size;omega
       have HA6:=hide hAr6;clear hAr6 hAr5 grow6 at6 nil6 ownB own5;go_wp2_with fail
       go_roundw
       ·exact ⟨i+1,ds++[dm],by simp,by rw [List.length_append,List.length_singleton,←Hid1.out],by omega,hi2,by rw [oQI,List.map_append,List.length_append,List.length_singleton];exact own6,kf,hsz6,HA6.out,Hah.out⟩
       ·simp only [intOf];omega
    ·have hiI:¬ (i:Int)<cs.length:=(by omega);have hdz:cs.drop i=[]:=List.drop_eq_nil_of_le (by omega);rw [hdz,colsS] at hres;simp only [aheadN,List.append_nil] at hres;have Hres:=hide hres;obtain ⟨yc,cyc,hyc⟩:=fQA own;subst hyc;have c1:=hAr.cell 1;have Hown:=hide own;clear hres hdz hplc own;go_upto_region 12 with fail
     go_cut [] (fun wx=>∃ wy,aQA [] wr wy∧Added wy base [B] B 3 #[tD,mD,sz,tN,mN,co,cl,ln] tN mN (m.rels.map Prod.fst) (txt n.g) wx)
     case first=>
      go_region_law (first
       | (refine kQA rfl 72 _ _ rfl _ func72 (by kernel_rfl) (by kernel_rfl) [.pointer (some ⟨B,3,none⟩),.string (txt n.g)] rfl ?_
          refine (hadd.out _ (kr.trans (aQA.drew _ _))).mono ?_
          rintro e w4 ⟨rfl,hAd⟩))
      all_goals
       go_wp2_with fail
       go_meet
       exact ⟨_,aQA.drew _ _,hAd⟩
     case rest=>
      obtain ⟨wy,kwy,hAd⟩:=hcut;have ky:=kr.trans kwy;have hVy:=HV.out.keeps ky (by simp);have hrow:=bQA Hown.out kwy (by simp);obtain ⟨tv',mv',hcells,hset,hown',hmap'⟩:=hAd.set;obtain ⟨T,kT,hT⟩:=hAd.keep;have hT':∀ j∈T,j∈[B]++(ownL tN++mapL mN):=fun j hj=>by
       rcases hT j hj with h | h | h
       ·simp [h]
       ·have h2:tN.ownBlock=some j:=h;simp [ownL,h2]
       ·have h2:mN=.map (some j):=h;simp [mapL,h2]
      have hcells':cQA wc B #[tD,mD,sz,tv',mv',co,cl,ln]:=hcells;have hfy:=hVy.foot;have hfl:=hVy.foot_lt;have hszT:∀ j∈ownL co,j∉T:=fun j hj hjT=>by
       have h1:=hT' j hjT;have h2:((headR B tD mD sz++ownL tN++mapL mN)++ownL co++(ownL cl++ownL ln)).Nodup:=by rw [footR] at hfy;simpa using hfy
       refine ((rQB h2).1 j hj).1 ?_;simp at h1;rcases h1 with q | q | q <;> simp [headR,q]
      have hsz:=bQA hVy.cols kT (fun j hj=>hszT j (by simp [ownL,hj]));obtain ⟨aS,cS,hS⟩:=fQA hsz;subst hS;have hTlt:∀ j∈T,j<w.heap.size:=fun j hj=>(HV.out.foot_lt j (by have:=hT' j hj;simp at this;rcases this with q | q | q <;> simp [qQD,q])).2;have hrowc:=bQA hrow kT (fun j hj hx=>by have:=(hQA hrow j hj).1;have:=hTlt j hx;omega);have d2:=hcells'.cell 5;have hBc:=hcells'.lt;have kA4:=aQA.alloc [] wc (.cells #[.slice yc ds.length cyc] 40);have ownB:=bQA hsz kA4 (by simp);have hsy:=ky.size;have hsT:=kT.size;have hswy:=kwy.size;clear hadd hAd hcells hT;go_wp2_with (at_builtin;refine wpList_append_own_at _ rfl _ _ 37 rfl base 40 i4 (.slice none 0 0) 1 24 underlying37 hi4 hy0 hy1 hy2 rfl (by decide) _ m.rels.length cvs rfl ownB ⟨wc.heap.size,0,none⟩ 1 1 [.slice yc ds.length cyc] rfl (by simp) row_one (by simp [Value.oneCell']) (by unfold maxLen;omega) (by omega) (by rw [dQA];omega) ?_)
      intro v' W2 own4 grow4 nil4 at4;have k4:=grownBy_keeps' grow4 (ownL (.slice aS m.rels.length cS)) (fun r e=>.inl (by simp [ownL,e]));obtain ⟨gg,cap,rfl⟩:=kQC own4;have hBco:B∉ownL (.slice aS m.rels.length cS):=fun hx=>by
       have h2:((headR B tD mD sz)++(ownL tN++mapL mN++ownL (.slice aS m.rels.length cS))++(ownL cl++ownL ln)).Nodup:=by rw [footR] at hfy;exact hfy
       exact ((rQB h2).1 B (List.mem_append_right _ hx)).1 (by simp [headR])
      have hB4:=(hcells'.keeps kA4 (by simp)).keeps k4 hBco;have e2:=hB4.cell 5;have f2:=hB4.frozen 5;have Hown4:=hide own4;have Hk4:=hide k4;have HB4:=hide hB4;clear own4 grow4 nil4 k4 hB4;go_wp2_with fail
      go_end0
      have hfD:=hfy;rw [footR] at hfD;have hAp:=rQB hfD;have hDM:∀ j∈ownL (.slice aS m.rels.length cS),j∉ownL tN∧j∉mapL mN:=fun j hj=>by
       have h2:((headR B tD mD sz++ownL tN++mapL mN)++ownL (.slice aS m.rels.length cS)++(ownL cl++ownL ln)).Nodup:=(by simpa using hfD);have h3:=((rQB h2).1 j hj).1;exact ⟨fun q=>h3 (by simp [q]),fun q=>h3 (by simp [q])⟩
      have hszl:∀ j∈ownL (.slice aS m.rels.length cS),base≤j∧j<w.heap.size:=fun j hj=>HV.out.foot_lt j (by simp [qQD,hj]);have htl:∀ j∈ownL tv',j∈ownL tN∨wy.heap.size≤j:=fun j hj=>by
       rcases hown' j (by simpa [ownL] using hj) with h | h
       ·left;have h2:tN.ownBlock=some j:=h;simp [ownL,h2]
       ·exact .inr h
      have hml:∀ j∈mapL mv',j∈mapL mN∨wy.heap.size≤j:=fun j hj=>by
       have e:mv' = .map (some j):=by
        unfold mapL at hj;split at hj
        ·have e:j=_:=(by simpa using hj);rw [e]
        ·cases hj
       rcases hmap' j e with h | h
       ·left;have h2:mN=.map (some j):=h;simp [mapL,h2]
       ·exact .inr h
      have hts:∀ j∈ownL tv',j∉ownL (.slice aS m.rels.length cS):=fun j hj hs=>by
       rcases htl j hj with h | h
       ·exact (hDM j hs).1 h
       ·have:=(hszl j hs).2;omega
      have hms:∀ j∈mapL mv',j∉ownL (.slice aS m.rels.length cS):=fun j hj hs=>by
       rcases hml j hj with h | h
       ·exact (hDM j hs).2 h
       ·have:=(hszl j hs).2;omega
      have hgg:gg∈ownL (.slice aS m.rels.length cS)∨gg=wc.heap.size+1:=by
       rcases at4 with h | h
       ·left;simp only [ownL];rw [←h];simp [Value.ownBlock]
       ·right;simpa [Value.ownBlock] using h
      have htw:∀ j∈ownL tv',j<wc.heap.size:=fun j hj=>(jQC hset.row j hj).2;have hmw:∀ j∈mapL mv',j<wc.heap.size:=fun j hj=>(tQJ hset j hj).2;have hggB:gg≠B:=by
       rcases hgg with h | h
       ·intro e;exact hBco (by rw [←e];exact h)
       ·omega
      have ks:=aQA.setCell W2 ⟨B,5,none⟩ (.slice (some ⟨gg,0,none⟩) (m.rels.length+1) cap)
      have kall:aQA ([B]++(ownL tN++mapL mN++ownL (.slice aS m.rels.length cS))) wy (W2.setCell ⟨B,5,none⟩ (.slice (some ⟨gg,0,none⟩) (m.rels.length+1) cap)):=
       (((kT.mono (fun i hi=>by have:=hT' i hi;simp at this ⊢;rcases this with q | q | q <;> simp [q])).trans (kA4.mono (by simp))).trans (Hk4.out.mono (fun i hi=>by simp [hi]))).trans (ks.mono (by simp))
      have k5:aQA (ownL (.slice aS m.rels.length cS)++[B]) wc (W2.setCell ⟨B,5,none⟩ (.slice (some ⟨gg,0,none⟩) (m.rels.length+1) cap)):=((kA4.mono (by simp)).trans (Hk4.out.mono (fun i hi=>by simp [hi]))).trans (ks.mono (by simp))
      have hsetF:=hset.kept k5 (fun j hj hx=>by
       rcases List.mem_append.1 hx with h | h
       ·exact hts j hj h
       ·exact hset.rowA j (by simpa [ownL] using hj) h) (fun j hj hx=>by
       rcases List.mem_append.1 hx with h | h
       ·exact hms j hj h
       ·rcases hset.map with ⟨q,_⟩ | ⟨r,q,_,_,q4,_⟩
        ·rw [q] at hj;simp [mapL] at hj
        ·rw [q] at hj;simp [mapL] at hj;subst hj;exact q4 h)
      have hzF:=bQA Hown4.out ks (fun j hj hx=>by
       have e1:j=B:=(by simpa using hx);have e2:gg=j:=(by simpa [Value.ownBlock] using hj)
       exact hggB (by rw [e2,e1]))
      have hcl5:∀ j∈ownL (.slice yc ds.length cyc),w.heap.size+1≤j∧j<wy.heap.size:=fun j hj=>jQC hrow j hj
      have hrowF:=sQA (base':=base) (bQA hrowc k5 (fun j hj hx=>by
       have h1:=(hcl5 j (by simp [ownL,hj])).1;rcases List.mem_append.1 hx with h | h
       ·have:=(hszl j h).2;omega
       ·have e:j=B:=(by simpa using h);omega)) (by omega)
      refine ⟨?_,[B]++(ownL tN++mapL mN++ownL (.slice aS m.rels.length cS)),(ky.mono (by simp)).trans kall,fun j hj=>(HV.out.foot_lt j (by simp at hj;rcases hj with q | q | q | q <;> simp [qQD,q])).1⟩;rw [←Hres.out];refine ⟨rfl,hVy.addRel kall (fun j hj=>.inl hj) (HB4.out.setCell 5 _) hsetF hzF hrowF (fun j hj hx=>?_) (fun j hj=>?_) ?_⟩
      ·have h1:=hcl5 j hj;rw [footR] at hx;rcases List.mem_append.1 hx with h | h
       ·rcases List.mem_append.1 h with h | h
        ·have:=(HV.out.foot_lt j (by rw [footR];exact List.mem_append_left _ (List.mem_append_left _ h))).2;omega
        ·rcases List.mem_append.1 h with h | h
         ·rcases List.mem_append.1 h with h | h
          ·rcases htl j h with q | q
           ·have:=(HV.out.foot_lt j (by simp [qQD,q])).2;omega
           ·omega
          ·rcases hml j h with q | q
           ·have:=(HV.out.foot_lt j (by simp [qQD,q])).2;omega
           ·omega
         ·have e:j=gg:=(by simpa [ownL,Value.ownBlock] using h);rcases hgg with q | q
          ·have:=(hszl gg q).2;omega
          ·omega
       ·have:=(HV.out.foot_lt j (by rw [footR];exact List.mem_append_right _ h)).2;omega
      ·rcases List.mem_append.1 hj with h | h
       ·rcases List.mem_append.1 h with h | h
        ·rcases htl j h with q | q
         ·left;simp [q]
         ·exact .inr q
        ·rcases hml j h with q | q
         ·left;simp [q]
         ·exact .inr q
       ·have e:j=gg:=(by simpa [ownL,Value.ownBlock] using h);rcases hgg with q | q
        ·left;rw [e];simp [q]
        ·right;omega
      ·rw [List.nodup_append,List.nodup_append];refine ⟨⟨rQG _,mapL_nodup _,fun a ha b hb e=>?_⟩,rQG _,fun a ha b hb e=>?_⟩
       ·subst e;rcases hset.map with ⟨q,_⟩ | ⟨r,q,_,_,_,q5⟩
        ·rw [q] at hb;simp [mapL] at hb
        ·rw [q] at hb;simp [mapL] at hb;subst hb;exact q5 (by simpa [ownL] using ha)
       ·subst e;have e2:a=gg:=(by simpa [ownL,Value.ownBlock] using hb);subst e2;rcases hgg with q | q
        ·rcases List.mem_append.1 ha with h | h
         ·exact hts a h q
         ·exact hms a h q
        ·rcases List.mem_append.1 ha with h | h
         ·have:=htw a h;omega
         ·have:=hmw a h;omega
end
end Go.Proofs.YtgjomknpjigkhaaGreatDoor
