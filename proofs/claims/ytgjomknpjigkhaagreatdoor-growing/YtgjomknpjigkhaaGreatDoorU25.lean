import Derived.Test.YtgjomknpjigkhaaGreatDoorU21
namespace Go.Proofs.YtgjomknpjigkhaaGreatDoor
open Go.Proofs.Tryz
set_option maxRecDepth 100000
set_option maxHeartbeats 4000000
section
open Go.RowKit
set_option maxHeartbeats 16000000 in
theorem clause_walk {w:World} {mb ib B:Nat} {m:Mean} (hm0:jQB w mb B m) (hok:mQC m) (hmb:mb≤w.heap.size) (a:dQE) (ls:List LitI) {ah al:Option Addr} {ch cl:Nat} {cs:List Value} {X:List Nat} (hhv:w.ownsRow ib 129 3 (.slice ah a.terms.length ch) a.terms.length (hQD a.terms)) (hlv:w.ownsRow ib 353 5 (.slice al ls.length cl) ls.length cs) (hls:vQC w ib X ls cs) (htl:a.terms.length≤1000000) (htt:∀ t∈a.terms,zQA t.g=true∧WfG t.g) (hll:ls.length≤1000000) (hlt:∀ l∈ls,l.atom.terms.length≤1000000∧∀ t∈l.atom.terms,zQA t.g=true∧WfG t.g) (h52:¬ m.clauses.length=52):Calls prog 338 #[.agg #[.string (eQA a.name.g),.string (txt a.name.g),.int .i64 a.name.line,.slice ah a.terms.length ch,.slice al ls.length cl],.pointer (some ⟨B,0,none⟩)] w fun e w'=>AddTo mb B (addClause m a ls) e w'∧∃ T,aQA T w w'∧∀ j∈T,mb≤j:=by
 obtain ⟨i1,hi1,hy0,hy1,hy2⟩:=info_parts info154;obtain ⟨i2,hi2,hx0,hx1,hx2⟩:=info_parts info279;obtain ⟨i3,hi3,hw0,hw1,hw2⟩:=info_parts info3E;have hm1:=hm0;obtain ⟨tD,mD,sz,tN,mN,co,clv,ln,cvs,kvs,hV⟩:=hm0;have h52l:=hok.clauses;obtain ⟨aD,cD,hD⟩:=fQA hV.cls;subst hD;obtain ⟨aL,cL,hL⟩:=fQA hV.lines;subst hL;have kA:=aQA.alloc [] w (.cells #[.string (eQA a.name.g),.string (txt a.name.g),.int .i64 a.name.line,.slice ah a.terms.length ch,.slice al ls.length cl] 330);have hA:=cQA.new w #[.string (eQA a.name.g),.string (txt a.name.g),.int .i64 a.name.line,.slice ah a.terms.length ch,.slice al ls.length cl] 330;have hBl:=hV.cells.lt;have b6:=hV.cells.cell 6;have h52I:(((m.clauses.length:Nat):Int) == 52)=false:=by rw [beq_eq_false_iff_ne];omega
 have hno:=hide (fun (w:World)=>iQC (w:=w) a.name 6);have Hat:=hide (fun (W:World) (k:aQA [] w W) (S:Nat) (sc:aQB) (X:List Nat) (h:jQF W w.heap.size S B sc X) (hX:∀ j∈X,j<W.heap.size) (ho:Once sc) (h4:sc.length≤4)=>atomM_calls hm1 hok k (Nat.le_refl _) k.size h hX ho h4 a hhv htl htt);have Hlat:=hide (fun (W:World) (k:aQA [] w W) (S:Nat) (sc:aQB) (X:List Nat) (h:jQF W w.heap.size S B sc X) (hX:∀ j∈X,j<W.heap.size) (ho:Once sc) (h4:sc.length≤4) (l:LitI) (av:Option Addr) (cc:Nat) (hcv:w.ownsRow ib 129 3 (.slice av l.atom.terms.length cc) l.atom.terms.length (hQD l.atom.terms)) (hl:l∈ls)=>atomM_calls hm1 hok k (Nat.le_refl _) k.size h hX ho h4 l.atom hcv (hlt l hl).1 (hlt l hl).2);have HV:=hide hV;have Hlv:=hide hlv;have Hls:=hide hls
 have Hadd:Hid (addClause m a ls=match wQL m [] a with | .error f=>.error f | .ok (x,sc)=>toMean m x a.name.line (eQG m sc 0 ls)):=hide (by
  unfold addClause;rw [if_neg h52];cases wQL m [] a with
  | error f=>rfl
  | ok q=>
   obtain ⟨x,sc⟩:=q;simp only;cases eQG m sc 0 ls with
   | error f=>rfl
   | ok q=>rfl)
 rw [Hadd.out];clear Hadd hV hm1 hlv hls hhv htt hlt h52;cases hr:wQL m [] a with
 | error f=>
  go_enter func338,ntmps338
  go_upto_region 1 with fail
  go_cut [] (fun wc=>aQA [] w wc∧cQA wc w.heap.size #[.string (eQA a.name.g),.string (txt a.name.g),.int .i64 a.name.line,.slice ah a.terms.length ch,.slice al ls.length cl])
  case first=>
   go_region_law (first
    | (refine kQA rfl 335 _ _ rfl _ func335 (by kernel_rfl) (by kernel_rfl) [tokV a.name,.bool false,.int .i64 6] rfl ?_
       refine (hno.out _).mono ?_
       rintro e w1 ⟨rfl,rfl⟩))
   all_goals
    go_wp2_with fail
    go_meet
    exact ⟨(kA.trans (aQA.drew _ _)).trans (aQA.alloc [] _ _),(hA.keeps (aQA.drew [] _) (by simp)).keeps (aQA.alloc [] _ _) (by simp)⟩
  case rest=>
   obtain ⟨k1,hA1⟩:=hcut;have kS:=aQA.alloc [] wc (.cells #[.pointer (some ⟨B,0,none⟩),.slice none 0 0,.map none,.slice none 0 0] 401);have hA2:=hA1.keeps kS (by simp);have hcall:=hide (Hat.out _ (k1.trans kS) wc.heap.size [] [w.heap.size] (scope_new k1 hA1.lt) (fun j hj=>by have e:j=w.heap.size:=(by simpa using hj);have:=hA2.lt;omega) (by intro i j a b h;simp at h) (by simp));rw [hr] at hcall;have c0:=hA2.cell 0;have c1:=hA2.cell 1;have c2:=hA2.cell 2;have c3:=hA2.cell 3;have kk:=k1.trans kS;clear hA hA1 kS Hat Hlat;go_wp2_with fail
   refine hcall.out.mono ?_;rintro e w3 ⟨rfl,T,k3,hT⟩;exact ⟨rfl,rfl,[],kk.trans_new k3 (fun j hj=>.inr (hT j hj).1),by simp⟩
 | ok q=>
  obtain ⟨x,sc1⟩:=q;have hmt:=xQI (by intro i j a b h;simp at h) (by simp) hr;have Hmt:=hide hmt;simp only;generalize hRR:eQG m sc1 0 ls=RR;have HRR:=hide hRR;clear hmt hRR;go_enter func338,ntmps338
  go_upto_region 1 with fail
  go_cut [] (fun wc=>aQA [] w wc∧cQA wc w.heap.size #[.string (eQA a.name.g),.string (txt a.name.g),.int .i64 a.name.line,.slice ah a.terms.length ch,.slice al ls.length cl])
  case first=>
   go_region_law (first
    | (refine kQA rfl 335 _ _ rfl _ func335 (by kernel_rfl) (by kernel_rfl) [tokV a.name,.bool false,.int .i64 6] rfl ?_
       refine (hno.out _).mono ?_
       rintro e w1 ⟨rfl,rfl⟩))
   all_goals
    go_wp2_with fail
    go_meet
    exact ⟨(kA.trans (aQA.drew _ _)).trans (aQA.alloc [] _ _),(hA.keeps (aQA.drew [] _) (by simp)).keeps (aQA.alloc [] _ _) (by simp)⟩
  case rest=>
   obtain ⟨k1,hA1⟩:=hcut;have kS:=aQA.alloc [] wc (.cells #[.pointer (some ⟨B,0,none⟩),.slice none 0 0,.map none,.slice none 0 0] 401);have hA2:=hA1.keeps kS (by simp);have hcall:=hide (Hat.out _ (k1.trans kS) wc.heap.size [] [w.heap.size] (scope_new k1 hA1.lt) (fun j hj=>by have e:j=w.heap.size:=(by simpa using hj);have:=hA2.lt;omega) (by intro i j a b h;simp at h) (by simp));rw [hr] at hcall;have c0:=hA2.cell 0;have c1:=hA2.cell 1;have c2:=hA2.cell 2;have c3:=hA2.cell 3;have kk:=k1.trans kS;have hA1l:=hA1.lt;clear hA hA1 kS Hat k1 hr kA;go_wp2_with fail
   refine hcall.out.mono ?_;rintro e w3 ⟨⟨tv,rfl,hrow,hsx⟩,T,k3,hT⟩;obtain ⟨ta,tc,rfl⟩:=fQA hrow;have hC0:=ClL.first (lav:=.slice al ls.length cl) hA2 kk k3 hT (by rw [dQA];omega) hrow hsx;have HC0:=hide hC0;have a4:=hC0.arg.cell 4;clear hC0 hA2 hcall k3 hT hrow hsx c0 c1 c2 c3 kk hno;go_wp2_with fail
   generalize hCb:w3.heap.size=C at *;go_loopw [27] (fun y wr=>∃ (i:Nat) (sci:aQB) (xs:List (yQA×Bool)) (lv:Value) (lcs:List Value),y=.int .i64 i∧i=xs.length∧i≤ls.length∧i≤4∧ClL w wr wc.heap.size B C a.name (.slice ah a.terms.length ch) (.slice al ls.length cl) sci x (.slice ta x.terms.length tc) xs lv lcs∧Once sci∧sci.length≤4∧aheadQ xs (eQG m sci i (ls.drop i))=RR) (fun y _=>ls.length - (intOf y).toNat)
   case atStart=>exact ⟨0,sc1,[],.slice none 0 0,[],rfl,rfl,by omega,by omega,HC0.out,Hmt.out.2.2.1,Hmt.out.2.2.2,by rw [List.drop_zero,HRR.out];cases RR <;> rfl⟩
   case round=>
    clear HC0 HRR Hmt a4;obtain ⟨i,sci,xs,lv,lcs,rfl,hix,hil,hi4,hC,hoi,h4i,hres⟩:=hrel;obtain ⟨ly,lc,hy⟩:=fQA hC.lrow;subst hy;have hszr:=hC.keep.size;have HC:=hide hC;have Hix:=hide hix;have hxl:xs.length≤4:=(by omega);clear hC hix;by_cases hlt:i<ls.length
    ·obtain ⟨l,hl⟩:∃ l,ls[i]?=some l:=⟨_,List.getElem?_eq_getElem hlt⟩;have hdl:ls.drop i=l :: ls.drop (i+1):=by
      rw [List.drop_eq_getElem_cons hlt];congr 1
      rw [List.getElem?_eq_getElem hlt] at hl;exact Option.some.inj hl
     rw [hdl,eQG] at hres;obtain ⟨v,hv1,hv2⟩:=Hls.out.at hl;obtain ⟨va,vc,hvv⟩:=fQA hv2;subst hvv;have hcr:=bQA Hlv.out HC.out.keep (by simp);obtain ⟨gt,hgt⟩:=aQC hcr (by omega);subst hgt;have c0:wr.cell? ⟨gt,i * 5,none⟩=some (.string (eQA l.atom.name.g)):=mQA hcr (by have:=hv1 0 (by omega);rw [Nat.add_zero] at this;rw [this];rfl);have c1:wr.cell? ⟨gt,i * 5+1,none⟩=some (.string (txt l.atom.name.g)):=mQA hcr (by rw [hv1 1 (by omega)];rfl);have c2:wr.cell? ⟨gt,i * 5+2,none⟩=some (.int .i64 l.atom.name.line):=mQA hcr (by rw [hv1 2 (by omega)];rfl);have c3:wr.cell? ⟨gt,i * 5+3,none⟩=some (.slice va l.atom.terms.length vc):=mQA hcr (by rw [hv1 3 (by omega)];rfl);have c4:wr.cell? ⟨gt,i * 5+4,none⟩=some (.bool l.no):=mQA hcr (by rw [hv1 4 (by omega)];rfl);have hgl:gt<wr.heap.size:=(qQA hcr gt rfl).2;have kK:=aQA.alloc [] wr (.cells #[.string (eQA l.atom.name.g),.string (txt l.atom.name.g),.int .i64 l.atom.name.line,.slice va l.atom.terms.length vc,.bool l.no] 353);have hK:=cQA.new wr #[.string (eQA l.atom.name.g),.string (txt l.atom.name.g),.int .i64 l.atom.name.line,.slice va l.atom.terms.length vc,.bool l.no] 353;have hiI:(i:Int)<ls.length:=(by omega);have Hv2:=hide hv2;have hlm:=List.mem_of_getElem? hl;clear hv1 hv2 hcr hdl hl;by_cases h4:i=4
     ·rw [if_pos h4] at hres;have Hres:=hide hres;have q4:((i:Int) == 4)=true:=by rw [h4];rfl
      have hy:=hide (fun (w:World)=>dQC (w:=w) l.atom.name 6);clear hres h4;go_wp2_with fail
      refine (hy.out _).mono ?_;rintro e w4 ⟨rfl,rfl⟩;exact ⟨rfl,by rw [←Hres.out];rfl,[],(HC.out.keep.trans kK).trans (aQA.alloc [] _ _),by simp⟩
     ·rw [if_neg h4] at hres;have q4:((i:Int) == 4)=false:=by rw [beq_eq_false_iff_ne];omega
      have hn:=hide (fun (w:World)=>iQC (w:=w) l.atom.name 6);have hi3':i+1≤4:=(by omega);clear h4;go_wp2_with fail
      refine (hn.out _).mono ?_;rintro e w4 ⟨rfl,rfl⟩;have kK2:=kK.trans (aQA.alloc [] _ (.cells #[.string (eQA l.atom.name.g),.string (txt l.atom.name.g),.int .i64 l.atom.name.line] 129));have hK2:=hK.keeps (aQA.alloc [] _ (.cells #[.string (eQA l.atom.name.g),.string (txt l.atom.name.g),.int .i64 l.atom.name.line] 129)) (by simp);generalize (wr.alloc (.cells #[.string (eQA l.atom.name.g),.string (txt l.atom.name.g),.int .i64 l.atom.name.line,.slice va l.atom.terms.length vc,.bool l.no] 353)).alloc (.cells #[.string (eQA l.atom.name.g),.string (txt l.atom.name.g),.int .i64 l.atom.name.line] 129)=W at *;have kWd:=kK2.trans (aQA.drew [] W);have hKd:=hK2.keeps (aQA.drew [] W) (by simp);have hLr:wr.heap.size<W.heap.size:=hK2.lt;have hLt:∀ j∈[w.heap.size,C]++(ownL (.slice ta x.terms.length tc)++ownL (.slice ly xs.length lc)++hQE lcs)++[wr.heap.size],j<W.drew.heap.size:=fun j hj=>by
       rcases List.mem_append.1 hj with q | q
       ·exact Nat.lt_of_lt_of_le (HC.out.lt j q).2 kWd.size
       ·have e:j=wr.heap.size:=(by simpa using q);rw [e];exact hLr
      have hscW:jQF W.drew w.heap.size wc.heap.size B sci ([w.heap.size,C]++(ownL (.slice ta x.terms.length tc)++ownL (.slice ly xs.length lc)++hQE lcs)++[wr.heap.size]):=(HC.out.sc.mono (fun j _ h2 h3 hx=>by
       rcases List.mem_append.1 hx with q | q
       ·exact h3 q
       ·have e:j=wr.heap.size:=(by simpa using q);omega)).keeps kWd (by simp)
      have hcall:=hide (Hlat.out W.drew (HC.out.keep.trans kWd) wc.heap.size sci _ hscW hLt hoi h4i l va vc Hv2.out hlm);have e0:=hK2.cell 0;have e1:=hK2.cell 1;have e2:=hK2.cell 2;have e3:=hK2.cell 3;have e4:=hK2.cell 4;have d2:=(HC.out.cl.keeps kK2 (by simp)).cell 2;have HLt:=hide hLt;clear hLt hscW c0 c1 c2 c3 c4 kK hK hn;cases hr3:wQL m sci l.atom with
      | error f=>
       rw [hr3] at hcall hres;have Hres:=hide hres;clear hres hr3;have g2:=(HC.out.cl.keeps (kK2.trans (aQA.alloc [] _ (.cells #[.int .i64 0,.slice none 0 0,.bool l.no] 279))) (by simp)).cell 2;have f2:=(HC.out.cl.keeps (kK2.trans (aQA.alloc [] _ (.cells #[.int .i64 0,.slice none 0 0,.bool l.no] 279))) (by simp)).frozen 2;go_wp2_with fail
       go_region_law (first
        | (refine step_dies2 rfl 339 _ _ rfl _ func339 (by kernel_rfl) (by kernel_rfl) [.pointer (some ⟨wc.heap.size,0,none⟩),.agg #[.string (eQA l.atom.name.g),.string (txt l.atom.name.g),.int .i64 l.atom.name.line,.slice va l.atom.terms.length vc]] rfl (.agg #[.int .i64 0,.slice none 0 0]) ?_ ?_
           ·refine hcall.out.mono ?_;rintro e w5 ⟨rfl,T4,k4,hT4⟩;refine ⟨rfl,?_,[],(HC.out.keep.trans kWd).trans_new k4 (fun j hj=>.inr (hT4 j hj).1),by simp⟩;rw [←Hres.out];rfl
           intro hf)
        | (refine step_void hf (.slice none 0 0) ?_))
       all_goals exact (hf.out).elim
      | ok q=>
       obtain ⟨y,sc'⟩:=q;rw [hr3] at hcall hres;have hmt:=xQI hoi h4i hr3;have hah:aheadQ (xs++[(y,l.no)]) (eQG m sc' (i+1) (ls.drop (i+1)))=RR:=by
        rw [←hres]
        show _=aheadQ xs (match eQG m sc' (i+1) (ls.drop (i+1)) with
         | .error f=>Except.error f
         | .ok (xs,sc'')=>.ok ((y,l.no) :: xs,sc''))
        cases eQG m sc' (i+1) (ls.drop (i+1)) with
        | error f=>rfl
        | ok q=>simp [aheadQ]
       have Hah:=hide hah;have Hmt:=hide hmt;clear hres hah hmt hr3 hoi Hlat;go_wp2_with fail
       go_region_law (first
        | (refine kQA rfl 339 _ _ rfl _ func339 (by kernel_rfl) (by kernel_rfl) [.pointer (some ⟨wc.heap.size,0,none⟩),.agg #[.string (eQA l.atom.name.g),.string (txt l.atom.name.g),.int .i64 l.atom.name.line,.slice va l.atom.terms.length vc]] rfl ?_
           refine hcall.out.mono ?_;rintro e w4 ⟨⟨tv,rfl,hrow4,hs4⟩,T4,k4,hT4⟩;obtain ⟨tva,tvc,rfl⟩:=fQA hrow4;have hk4:=(kWd.mono (fun i hi=>by cases hi)).trans k4;have hC4:=HC.out.kept hk4 (fun j hj=>⟨(hT4 j hj).1,fun hx=>(hT4 j hj).2 (List.mem_append_left _ hx)⟩) (hs4.mono (fun j _ _ q hx=>q (List.mem_append_left _ (List.mem_append_left _ hx))));have hK4:=hKd.keeps k4 (fun q=>(hT4 _ q).2 (by simp))
           have hs4':jQF w4 w.heap.size wc.heap.size B sc' ([w.heap.size,C]++(ownL (.slice ta x.terms.length tc)++ownL (.slice ly xs.length lc)++hQE lcs)++ownL (.slice tva y.terms.length tvc)):=hs4.mono (fun j _ _ q hx=>q (by
            rcases List.mem_append.1 hx with h | h
            ·exact List.mem_append_left _ (List.mem_append_left _ h)
            ·exact List.mem_append_right _ h))
           have row4A:=bQA hC4.lrow (aQA.alloc [] w4 (.cells #[.int .i64 (y.rel:Int),.slice tva y.terms.length tvc,.bool l.no] 279)) (by simp);have hD4A:=hC4.cl.keeps (aQA.alloc [] w4 (.cells #[.int .i64 (y.rel:Int),.slice tva y.terms.length tvc,.bool l.no] 279)) (by simp);have hs4z:w.heap.size≤w4.heap.size:=Nat.le_trans hszr hk4.size;have f4:=hK4.cell 4;have f1:=hC4.cl.cell 2;have f2:=hD4A.cell 2;have HC4:=hide hC4;have hzz:∀ j∈[w.heap.size,C]++(ownL (.slice ta x.terms.length tc)++ownL (.slice ly xs.length lc)++hQE lcs),j<W.drew.heap.size:=fun j hj=>HLt.out j (List.mem_append_left _ hj);have Hzz:=hide hzz
           clear hC4 hK4 hzz)
        | (refine step_append_lies _ (by rfl) _ _ _ (by rfl) w.heap.size 279 i2 _ 3 40 underlying152 hi2 hx0 hx1 hx2 rfl (by omega) (.slice ly xs.length lc) xs.length lcs (by rfl) row4A ⟨w4.heap.size,0,none⟩ 1 1 [.int .i64 (y.rel:Int),.slice tva y.terms.length tvc,.bool l.no] (by rfl) (by rfl) (three_cells (W:=w4)) (by simp [Value.oneCell']) (by omega) (by unfold maxLen;omega) (by omega) (by rw [dQA];omega) (w4.heap.size+1) (by rw [dQA]) ?_
           intro gg cap w5 hown5 hgrow hat hlt5;have k6:=grownBy_keeps' hgrow (ownL (.slice ly xs.length lc)) (fun r e=>.inl (by simp [ownL,e]));have hD5:=hD4A.keeps k6 (fun q=>(HC.out.far C (by simp [q])).2 rfl);have d4g:=hD5.cell 2;have f4g:=hD5.frozen 2;have hNew:=hide (HC4.out.step Hzz.out hrow4 hs4' hgrow hown5 hat)
           clear hD5 k6))
       all_goals
        go_wp2_with fail
        go_roundw
        ·exact ⟨i+1,sc',xs++[(y,l.no)],_,_,by simp,by rw [List.length_append,List.length_singleton,←Hix.out],by omega,hi3',hNew.out,Hmt.out.2.2.1,Hmt.out.2.2.2,Hah.out⟩
        ·simp only [intOf];omega
    ·have hiI:¬ (i:Int)<ls.length:=(by omega);have hdz:ls.drop i=[]:=List.drop_eq_nil_of_le (by omega);rw [hdz,eQG] at hres;simp only [aheadQ,List.append_nil] at hres;have Hres:=hide hres;have hVr:=HV.out.keeps HC.out.keep (by simp);have hBr:=hVr.cells.lt;have b6r:=hVr.cells.cell 6;have c0:=HC.out.cl.cell 0;have c1:=HC.out.cl.cell 1;have c2:=HC.out.cl.cell 2;have kA4:=aQA.alloc [] wr (.cells #[.int .i64 (x.rel:Int),.slice ta x.terms.length tc,.slice ly xs.length lc] 154);have b6a:=(hVr.cells.keeps kA4 (by simp)).cell 6;have ownA:=bQA hVr.cls kA4 (by simp);have HVr:=hide hVr;clear hres hdz hVr Hlat b6;go_upto_region 10 with fail
     go_cut [] (fun wd=>∃ gg cap,Grown wr wd mb B m tD mD sz tN mN co (.slice aD m.clauses.length cD) (.slice aL m.clauses.length cL) kvs [.int .i64 (x.rel:Int),.slice ta x.terms.length tc,.slice ly xs.length lc] gg cap)
     case first=>
      go_region_law (first
       | (refine step_append_lies _ (by rfl) _ _ _ (by rfl) mb 154 i1 _ 3 56 underlying124 hi1 hy0 hy1 hy2 rfl (by omega) (.slice aD m.clauses.length cD) m.clauses.length kvs (by rfl) (bQA ownA (aQA.drew [] _) (by simp)) ⟨wr.heap.size,0,none⟩ 1 1 [.int .i64 (x.rel:Int),.slice ta x.terms.length tc,.slice ly xs.length lc] (by rfl) (by rfl) (three_cells (W:=wr)) (by simp [Value.oneCell']) (by omega) (by unfold maxLen;omega) (by omega) (by show mb≤(wr.alloc _).heap.size;rw [dQA];omega) (wr.heap.size+1) (by show (wr.alloc _).heap.size=_;rw [dQA]) ?_
          intro gg cap w5 hown5 hgrow hat hlt5;obtain ⟨hG,hB5⟩:=Grown.of (kA4.trans (aQA.drew [] _)) HVr.out hown5 hgrow hat;have HG:=hide hG;have d6:=hB5.cell 6;have f6:=hB5.frozen 6
          clear hG hB5))
      all_goals
       go_wp2_with fail
       go_meet
       exact ⟨_,_,HG.out⟩
     case rest=>
      obtain ⟨gg,cap,hG⟩:=hcut;have hf:=HV.out.foot;rw [footC] at hf;have hfl:=HV.out.foot_lt;rw [footC] at hfl;have hBn:∀ j∈ownL (.slice aD m.clauses.length cD),mb≤j∧j<w.heap.size:=fun j hj=>hfl j (by simp [hj]);have hln:∀ j∈ownL (.slice aL m.clauses.length cL),j∉[B]++ownL (.slice aD m.clauses.length cD):=fun j hj q=>by
       rcases List.mem_append.1 q with q | q
       ·have e:j=B:=(by simpa using q);exact ((rQB hf).1 j (by simp [hj])).1 (by rw [e];simp [headC])
       ·have h2:(headC B tD mD sz tN mN co++ownL (.slice aD m.clauses.length cD)++ownL (.slice aL m.clauses.length cL)).Nodup:=(by simpa using hf);exact ((rQB h2).2 j hj).2 q
      have hAc:=HC.out.arg.keeps hG.keep (fun q=>by
       rcases List.mem_append.1 q with q | q
       ·have e:w.heap.size=B:=(by simpa using q);omega
       ·have:=(hBn _ q).2;omega)
      have hlr:=bQA HVr.out.lines hG.keep (fun j hj=>hln j (by simp [ownL,hj]));have kA5:=aQA.alloc [] wc (.cells #[.int .i64 (a.name.line:Int)] 3);have b7:=hG.cells.cell 7;have b7a:=(hG.cells.keeps kA5 (by simp)).cell 7;have a2:=hAc.cell 2;have a2a:=(hAc.keeps kA5 (by simp)).cell 2;have ownB:=bQA hlr kA5 (by simp);have hsc:=hG.keep.size;have hBc:=hG.cells.lt;have HG:=hide hG;clear hG hf hfl hBn hln hAc hlr b6r c0 c1 c2 kA4 b6a ownA;go_wp2_with fail
      go_region_law (first
       | (refine step_append_lies _ (by rfl) _ _ _ (by rfl) mb 3 i3 _ 1 8 underlying40 hi3 hw0 hw1 hw2 rfl (by omega) (.slice aL m.clauses.length cL) m.clauses.length (oQI (m.clauses.map (·.line))) (by rfl) (bQA ownB (aQA.drew [] _) (by simp)) ⟨wc.heap.size,0,none⟩ 1 1 [.int .i64 (a.name.line:Int)] (by rfl) (by rfl) (int_one (W:=wc)) (by simp [Value.oneCell']) (by omega) (by unfold maxLen;omega) (by omega) (by show mb≤(wc.alloc _).heap.size;rw [dQA];omega) (wc.heap.size+1) (by show (wc.alloc _).heap.size=_;rw [dQA]) ?_
          intro g2 cap2 w5 hown5 hgrow hat hlt5;obtain ⟨hB5,hEnd,hKeep⟩:=clause_done (kA5.trans (aQA.drew [] _)) HV.out hmb HC.out HG.out hown5 hgrow hat;have HE:=hide hEnd;have HK:=hide hKeep;have d7:=hB5.cell 7;have f7:=hB5.frozen 7
          clear hEnd hKeep hB5))
      all_goals
       go_wp2_with fail
       go_end0
       refine ⟨?_,HK.out⟩;rw [←Hres.out];exact ⟨rfl,HE.out⟩
end
end Go.Proofs.YtgjomknpjigkhaaGreatDoor
