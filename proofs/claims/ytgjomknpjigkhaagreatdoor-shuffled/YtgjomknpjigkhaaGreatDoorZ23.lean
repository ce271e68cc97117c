import Derived.Test.YtgjomknpjigkhaaGreatDoorZ19
namespace Go.Proofs.YtgjomknpjigkhaaGreatDoor
open Go.Proofs.Tryz
set_option maxRecDepth 100000
set_option maxHeartbeats 4000000
section
open Go.RowKit
set_option maxHeartbeats 16000000 in
theorem Uw {w:World} {mb ib B:Nat} {m:Mean} (hm0:B5 w mb B m) (hok:DA m) (hmb:mb≤w.heap.size) (a:Dx) (ls:List Dn) {ah al:Option Addr} {ch cl:Nat} {cs:List Value} {X:List Nat} (hhv:w.ownsRow ib 129 3 (.slice ah a.terms.length ch) a.terms.length (De a.terms)) (hlv:w.ownsRow ib 353 5 (.slice al ls.length cl) ls.length cs) (hls:Dk w ib X ls cs) (htl:a.terms.length≤1000000) (htt:∀ t∈a.terms,Bv t.g=true∧Pp t.g) (hll:ls.length≤1000000) (hlt:∀ l∈ls,l.atom.terms.length≤1000000∧∀ t∈l.atom.terms,Bv t.g=true∧Pp t.g) (h52:¬ m.clauses.length=52):Calls prog 338 #[.agg #[.string (AV a.name.g),.string (BB a.name.g),.int .i64 a.name.line,.slice ah a.terms.length ch,.slice al ls.length cl],.pointer (some ⟨B,0,none⟩)] w fun e w'=>YD mb B (addClause m a ls) e w'∧∃ T,AA T w w'∧∀ j∈T,mb≤j:=by
 obtain ⟨i1,hi1,hy0,hy1,hy2⟩:=info_parts Xp;obtain ⟨i2,hi2,hx0,hx1,hx2⟩:=info_parts iU;obtain ⟨i3,hi3,hw0,hw1,hw2⟩:=info_parts Mu;have hm1:=hm0;obtain ⟨tD,mD,sz,tN,mN,co,clv,ln,cvs,kvs,hV⟩:=hm0;have h52l:=hok.clauses;obtain ⟨aD,cD,hD⟩:=Al hV.cls;subst hD;obtain ⟨aL,cL,hL⟩:=Al hV.lines;subst hL;have kA:=AA.alloc [] w (.cells #[.string (AV a.name.g),.string (BB a.name.g),.int .i64 a.name.line,.slice ah a.terms.length ch,.slice al ls.length cl] 330);have hA:=AK.new w #[.string (AV a.name.g),.string (BB a.name.g),.int .i64 a.name.line,.slice ah a.terms.length ch,.slice al ls.length cl] 330;have hBl:=hV.cells.lt;have b6:=hV.cells.cell 6;have h52I:(((m.clauses.length:Nat):Int) == 52)=false:=by rw [beq_eq_false_iff_ne];omega
 have hno:=AD (fun (w:World)=>DZ (w:=w) a.name 6);have Hat:=AD (fun (W:World) (k:AA [] w W) (S:Nat) (sc:Ba) (X:List Nat) (h:Eo W w.heap.size S B sc X) (hX:∀ j∈X,j<W.heap.size) (ho:Iw sc) (h4:sc.length≤4)=>Nk hm1 hok k (AQ _) k.size h hX ho h4 a hhv htl htt);have Hlat:=AD (fun (W:World) (k:AA [] w W) (S:Nat) (sc:Ba) (X:List Nat) (h:Eo W w.heap.size S B sc X) (hX:∀ j∈X,j<W.heap.size) (ho:Iw sc) (h4:sc.length≤4) (l:Dn) (av:Option Addr) (cc:Nat) (hcv:w.ownsRow ib 129 3 (.slice av l.atom.terms.length cc) l.atom.terms.length (De l.atom.terms)) (hl:l∈ls)=>Nk hm1 hok k (AQ _) k.size h hX ho h4 l.atom hcv (hlt l hl).1 (hlt l hl).2);have HV:=AD hV;have Hlv:=AD hlv;have Hls:=AD hls
 have Hadd:Hid (addClause m a ls=match FR m [] a with | .error f=>.error f | .ok (x,sc)=>lU m x a.name.line (Eg m sc 0 ls)):=AD (by
  unfold addClause;rw [if_neg h52];cases FR m [] a with
  | error f=>rfl
  | ok q=>
   obtain ⟨x,sc⟩:=q;simp only;cases Eg m sc 0 ls with
   | error f=>rfl
   | ok q=>rfl)
 rw [Hadd.out];clear Hadd hV hm1 hlv hls hhv htt hlt h52;cases hr:FR m [] a with
 | error f=>
  go_in
  go_upto_region 1 with fail
  go_cut [] (fun wc=>AA [] w wc∧AK wc w.heap.size #[.string (AV a.name.g),.string (BB a.name.g),.int .i64 a.name.line,.slice ah a.terms.length ch,.slice al ls.length cl])
  case first=>
   go_region_law (first
    | (refine A2 rfl 335 _ _ rfl _ func335 (by kernel_rfl) (by kernel_rfl) [Da a.name,.bool false,.int .i64 6] rfl ?_
       refine (hno.out _).mono ?_
       rintro e w1 ⟨rfl,rfl⟩))
   all_goals
    go_wp2_with fail
    go_meet
    exact ⟨(kA.trans (AA.drew _ _)).trans (AA.alloc [] _ _),(hA.keeps (AA.drew [] _)).keeps (AA.alloc [] _ _)⟩
  case rest=>
   obtain ⟨k1,hA1⟩:=hcut;have kS:=AA.alloc [] wc (.cells #[.pointer (some ⟨B,0,none⟩),.slice none 0 0,.map none,.slice none 0 0] 401);have hA2:=hA1.keeps kS;have hcall:=AD (Hat.out _ (k1.trans kS) wc.heap.size [] [w.heap.size] (QT k1 hA1.lt) (fun j hj=>by have e:j=w.heap.size:=(by simpa using hj);have:=hA2.lt;omega) (by intro i j a b h;simp at h) (by simp));rw [hr] at hcall;have c0:=hA2.cell 0;have c1:=hA2.cell 1;have c2:=hA2.cell 2;have c3:=hA2.cell 3;have kk:=k1.trans kS;clear hA hA1 kS Hat Hlat;go_wp2_with fail
   refine hcall.out.mono ?_;rintro e w3 ⟨rfl,T,k3,hT⟩;exact ⟨rfl,rfl,[],kk.trans_new k3 (fun j hj=>.inr (hT j hj).1),by simp⟩
 | ok q=>
  obtain ⟨x,sc1⟩:=q;have hmt:=IB (by intro i j a b h;simp at h) (by simp) hr;have Hmt:=AD hmt;simp only;generalize hRR:Eg m sc1 0 ls=RR;have HRR:=AD hRR;clear hmt hRR;go_in
  go_upto_region 1 with fail
  go_cut [] (fun wc=>AA [] w wc∧AK wc w.heap.size #[.string (AV a.name.g),.string (BB a.name.g),.int .i64 a.name.line,.slice ah a.terms.length ch,.slice al ls.length cl])
  case first=>
   go_region_law (first
    | (refine A2 rfl 335 _ _ rfl _ func335 (by kernel_rfl) (by kernel_rfl) [Da a.name,.bool false,.int .i64 6] rfl ?_
       refine (hno.out _).mono ?_
       rintro e w1 ⟨rfl,rfl⟩))
   all_goals
    go_wp2_with fail
    go_meet
    exact ⟨(kA.trans (AA.drew _ _)).trans (AA.alloc [] _ _),(hA.keeps (AA.drew [] _)).keeps (AA.alloc [] _ _)⟩
  case rest=>
   obtain ⟨k1,hA1⟩:=hcut;have kS:=AA.alloc [] wc (.cells #[.pointer (some ⟨B,0,none⟩),.slice none 0 0,.map none,.slice none 0 0] 401);have hA2:=hA1.keeps kS;have hcall:=AD (Hat.out _ (k1.trans kS) wc.heap.size [] [w.heap.size] (QT k1 hA1.lt) (fun j hj=>by have e:j=w.heap.size:=(by simpa using hj);have:=hA2.lt;omega) (by intro i j a b h;simp at h) (by simp));rw [hr] at hcall;have c0:=hA2.cell 0;have c1:=hA2.cell 1;have c2:=hA2.cell 2;have c3:=hA2.cell 3;have kk:=k1.trans kS;have hA1l:=hA1.lt;clear hA hA1 kS Hat k1 hr kA;go_wp2_with fail
   refine hcall.out.mono ?_;rintro e w3 ⟨⟨tv,rfl,hrow,hsx⟩,T,k3,hT⟩;obtain ⟨ta,tc,rfl⟩:=Al hrow;have hC0:=Zn.first (lav:=.slice al ls.length cl) hA2 kk k3 hT (by rw [AX];omega) hrow hsx;have HC0:=AD hC0;have a4:=hC0.arg.cell 4;clear hC0 hA2 hcall k3 hT hrow hsx c0 c1 c2 c3 kk hno;go_wp2_with fail
   generalize hCb:w3.heap.size=C at *;go_loopw [27] (fun y wr=>∃ (i:Nat) (sci:Ba) (xs:List (BW×Bool)) (lv:Value) (lcs:List Value),y=.int .i64 i∧i=xs.length∧i≤ls.length∧i≤4∧Zn w wr wc.heap.size B C a.name (.slice ah a.terms.length ch) (.slice al ls.length cl) sci x (.slice ta x.terms.length tc) xs lv lcs∧Iw sci∧sci.length≤4∧Pa xs (Eg m sci i (ls.drop i))=RR) (fun y _=>ls.length - (intOf y).toNat)
   case atStart=>exact ⟨0,sc1,[],.slice none 0 0,[],rfl,rfl,by omega,by omega,HC0.out,Hmt.out.2.2.1,Hmt.out.2.2.2,by rw [BV,HRR.out];cases RR <;> rfl⟩
   case round=>
    clear HC0 HRR Hmt a4;obtain ⟨i,sci,xs,lv,lcs,rfl,hix,hil,hi4,hC,hoi,h4i,hres⟩:=hrel;obtain ⟨ly,lc,hy⟩:=Al hC.lrow;subst hy;have hszr:=hC.keep.size;have HC:=AD hC;have Hix:=AD hix;have hxl:xs.length≤4:=(by omega);clear hC hix;by_cases hlt:i<ls.length
    ·obtain ⟨l,hl⟩:∃ l,ls[i]?=some l:=⟨_,AB hlt⟩;have hdl:ls.drop i=l :: ls.drop (i+1):=by
      rw [BT hlt];congr 1
      rw [AB hlt] at hl;exact Ar hl
     rw [hdl,Eg] at hres;obtain ⟨v,hv1,hv2⟩:=Hls.out.at hl;obtain ⟨va,vc,hvv⟩:=Al hv2;subst hvv;have hcr:=AH Hlv.out HC.out.keep;obtain ⟨gt,hgt⟩:=DK hcr (by omega);subst hgt;have c0:wr.cell? ⟨gt,i * 5,none⟩=some (.string (AV l.atom.name.g)):=BL hcr (by have:=hv1 0 (by omega);rw [CY] at this;rw [this];rfl);have c1:wr.cell? ⟨gt,i * 5+1,none⟩=some (.string (BB l.atom.name.g)):=BL hcr (by rw [hv1 1 (by omega)];rfl);have c2:wr.cell? ⟨gt,i * 5+2,none⟩=some (.int .i64 l.atom.name.line):=BL hcr (by rw [hv1 2 (by omega)];rfl);have c3:wr.cell? ⟨gt,i * 5+3,none⟩=some (.slice va l.atom.terms.length vc):=BL hcr (by rw [hv1 3 (by omega)];rfl);have c4:wr.cell? ⟨gt,i * 5+4,none⟩=some (.bool l.no):=BL hcr (by rw [hv1 4 (by omega)];rfl);have hgl:gt<wr.heap.size:=(Bd hcr gt rfl).2;have kK:=AA.alloc [] wr (.cells #[.string (AV l.atom.name.g),.string (BB l.atom.name.g),.int .i64 l.atom.name.line,.slice va l.atom.terms.length vc,.bool l.no] 353);have hK:=AK.new wr #[.string (AV l.atom.name.g),.string (BB l.atom.name.g),.int .i64 l.atom.name.line,.slice va l.atom.terms.length vc,.bool l.no] 353;have hiI:(i:Int)<ls.length:=(by omega);have Hv2:=AD hv2;have hlm:=AE hl;clear hv1 hv2 hcr hdl hl;by_cases h4:i=4
     ·rw [if_pos h4] at hres;have Hres:=AD hres;have q4:((i:Int) == 4)=true:=by rw [h4];rfl
      have hy:=AD (fun (w:World)=>DT (w:=w) l.atom.name 6);clear hres h4;go_wp2_with fail
      refine (hy.out _).mono ?_;rintro e w4 ⟨rfl,rfl⟩;exact ⟨rfl,by rw [←Hres.out];rfl,[],(HC.out.keep.trans kK).trans (AA.alloc [] _ _),by simp⟩
     ·rw [if_neg h4] at hres;have q4:((i:Int) == 4)=false:=by rw [beq_eq_false_iff_ne];omega
      have hn:=AD (fun (w:World)=>DZ (w:=w) l.atom.name 6);have hi3':i+1≤4:=(by omega);clear h4;go_wp2_with fail
      refine (hn.out _).mono ?_;rintro e w4 ⟨rfl,rfl⟩;have kK2:=kK.trans (AA.alloc [] _ (.cells #[.string (AV l.atom.name.g),.string (BB l.atom.name.g),.int .i64 l.atom.name.line] 129));have hK2:=hK.keeps (AA.alloc [] _ (.cells #[.string (AV l.atom.name.g),.string (BB l.atom.name.g),.int .i64 l.atom.name.line] 129));generalize (wr.alloc (.cells #[.string (AV l.atom.name.g),.string (BB l.atom.name.g),.int .i64 l.atom.name.line,.slice va l.atom.terms.length vc,.bool l.no] 353)).alloc (.cells #[.string (AV l.atom.name.g),.string (BB l.atom.name.g),.int .i64 l.atom.name.line] 129)=W at *;have kWd:=kK2.trans (AA.drew [] W);have hKd:=hK2.keeps (AA.drew [] W);have hLr:wr.heap.size<W.heap.size:=hK2.lt;have hLt:∀ j∈[w.heap.size,C]++(Aa (.slice ta x.terms.length tc)++Aa (.slice ly xs.length lc)++D6 lcs)++[wr.heap.size],j<W.drew.heap.size:=fun j hj=>by
       rcases AC.1 hj with q | q
       ·exact A4 (HC.out.lt j q).2 kWd.size
       ·have e:j=wr.heap.size:=(by simpa using q);rw [e];exact hLr
      have hscW:Eo W.drew w.heap.size wc.heap.size B sci ([w.heap.size,C]++(Aa (.slice ta x.terms.length tc)++Aa (.slice ly xs.length lc)++D6 lcs)++[wr.heap.size]):=(HC.out.sc.mono (fun j _ h2 h3 hx=>by
       rcases AC.1 hx with q | q
       ·exact h3 q
       ·have e:j=wr.heap.size:=(by simpa using q);omega)).keeps kWd
      have hcall:=AD (Hlat.out W.drew (HC.out.keep.trans kWd) wc.heap.size sci _ hscW hLt hoi h4i l va vc Hv2.out hlm);have e0:=hK2.cell 0;have e1:=hK2.cell 1;have e2:=hK2.cell 2;have e3:=hK2.cell 3;have e4:=hK2.cell 4;have d2:=(HC.out.cl.keeps kK2).cell 2;have HLt:=AD hLt;clear hLt hscW c0 c1 c2 c3 c4 kK hK hn;cases hr3:FR m sci l.atom with
      | error f=>
       rw [hr3] at hcall hres;have Hres:=AD hres;clear hres hr3;have g2:=(HC.out.cl.keeps (kK2.trans (AA.alloc [] _ (.cells #[.int .i64 0,.slice none 0 0,.bool l.no] 279)))).cell 2;have f2:=(HC.out.cl.keeps (kK2.trans (AA.alloc [] _ (.cells #[.int .i64 0,.slice none 0 0,.bool l.no] 279)))).frozen 2;go_wp2_with fail
       go_region_law (first
        | (refine OP rfl 339 _ _ rfl _ func339 (by kernel_rfl) (by kernel_rfl) [.pointer (some ⟨wc.heap.size,0,none⟩),.agg #[.string (AV l.atom.name.g),.string (BB l.atom.name.g),.int .i64 l.atom.name.line,.slice va l.atom.terms.length vc]] rfl (.agg #[.int .i64 0,.slice none 0 0]) ?_ ?_
           ·refine hcall.out.mono ?_;rintro e w5 ⟨rfl,T4,k4,hT4⟩;refine ⟨rfl,?_,[],(HC.out.keep.trans kWd).trans_new k4 (fun j hj=>.inr (hT4 j hj).1),by simp⟩;rw [←Hres.out];rfl
           intro hf)
        | (refine QR hf (.slice none 0 0) ?_))
       all_goals exact (hf.out).elim
      | ok q=>
       obtain ⟨y,sc'⟩:=q;rw [hr3] at hcall hres;have hmt:=IB hoi h4i hr3;have hah:Pa (xs++[(y,l.no)]) (Eg m sc' (i+1) (ls.drop (i+1)))=RR:=by
        rw [←hres]
        show _=Pa xs (match Eg m sc' (i+1) (ls.drop (i+1)) with
         | .error f=>Except.error f
         | .ok (xs,sc'')=>.ok ((y,l.no) :: xs,sc''))
        cases Eg m sc' (i+1) (ls.drop (i+1)) with
        | error f=>rfl
        | ok q=>simp [Pa]
       have Hah:=AD hah;have Hmt:=AD hmt;clear hres hah hmt hr3 hoi Hlat;go_wp2_with fail
       go_region_law (first
        | (refine A2 rfl 339 _ _ rfl _ func339 (by kernel_rfl) (by kernel_rfl) [.pointer (some ⟨wc.heap.size,0,none⟩),.agg #[.string (AV l.atom.name.g),.string (BB l.atom.name.g),.int .i64 l.atom.name.line,.slice va l.atom.terms.length vc]] rfl ?_
           refine hcall.out.mono ?_;rintro e w4 ⟨⟨tv,rfl,hrow4,hs4⟩,T4,k4,hT4⟩;obtain ⟨tva,tvc,rfl⟩:=Al hrow4;have hk4:=(kWd.mono (fun i hi=>by cases hi)).trans k4;have hC4:=HC.out.kept hk4 (fun j hj=>⟨(hT4 j hj).1,fun hx=>(hT4 j hj).2 (AN _ hx)⟩) (hs4.mono (fun j _ _ q hx=>q (AN _ (AN _ hx))));have hK4:=hKd.keeps k4 (fun q=>(hT4 _ q).2 (by simp))
           have hs4':Eo w4 w.heap.size wc.heap.size B sc' ([w.heap.size,C]++(Aa (.slice ta x.terms.length tc)++Aa (.slice ly xs.length lc)++D6 lcs)++Aa (.slice tva y.terms.length tvc)):=hs4.mono (fun j _ _ q hx=>q (by
            rcases AC.1 hx with h | h
            ·exact AN _ (AN _ h)
            ·exact AT _ h))
           have row4A:=AH hC4.lrow (AA.alloc [] w4 (.cells #[.int .i64 (y.rel:Int),.slice tva y.terms.length tvc,.bool l.no] 279));have hD4A:=hC4.cl.keeps (AA.alloc [] w4 (.cells #[.int .i64 (y.rel:Int),.slice tva y.terms.length tvc,.bool l.no] 279));have hs4z:w.heap.size≤w4.heap.size:=At hszr hk4.size;have f4:=hK4.cell 4;have f1:=hC4.cl.cell 2;have f2:=hD4A.cell 2;have HC4:=AD hC4;have hzz:∀ j∈[w.heap.size,C]++(Aa (.slice ta x.terms.length tc)++Aa (.slice ly xs.length lc)++D6 lcs),j<W.drew.heap.size:=fun j hj=>HLt.out j (AN _ hj);have Hzz:=AD hzz
           clear hC4 hK4 hzz)
        | (refine step_append_lies _ (by rfl) _ _ _ (by rfl) w.heap.size 279 i2 _ 3 40 underlying152 hi2 hx0 hx1 hx2 rfl (by omega) (.slice ly xs.length lc) xs.length lcs (by rfl) row4A ⟨w4.heap.size,0,none⟩ 1 1 [.int .i64 (y.rel:Int),.slice tva y.terms.length tvc,.bool l.no] (by rfl) (by rfl) (NA (W:=w4)) (by simp [Value.oneCell']) (by omega) (by unfold maxLen;omega) (by omega) (by rw [AX];omega) (w4.heap.size+1) (by rw [AX]) ?_
           intro gg cap w5 hown5 hgrow hat hlt5;have k6:=grownBy_keeps' hgrow (Aa (.slice ly xs.length lc)) (fun r e=>.inl (by simp [Aa,e]));have hD5:=hD4A.keeps k6 (fun q=>(HC.out.far C (by simp [q])).2 rfl);have d4g:=hD5.cell 2;have f4g:=hD5.frozen 2;have hNew:=AD (HC4.out.step Hzz.out hrow4 hs4' hgrow hown5 hat)
           clear hD5 k6))
       all_goals
        go_wp2_with fail
        go_roundw
        ·exact ⟨i+1,sc',xs++[(y,l.no)],_,_,by simp,by rw [AJ,Ah,←Hix.out],by omega,hi3',hNew.out,Hmt.out.2.2.1,Hmt.out.2.2.2,Hah.out⟩
        ·simp only [intOf];omega
    ·have hiI:¬ (i:Int)<ls.length:=(by omega);have hdz:ls.drop i=[]:=Bq (by omega);rw [hdz,Eg] at hres;simp only [Pa,BR] at hres;have Hres:=AD hres;have hVr:=HV.out.keeps HC.out.keep;have hBr:=hVr.cells.lt;have b6r:=hVr.cells.cell 6;have c0:=HC.out.cl.cell 0;have c1:=HC.out.cl.cell 1;have c2:=HC.out.cl.cell 2;have kA4:=AA.alloc [] wr (.cells #[.int .i64 (x.rel:Int),.slice ta x.terms.length tc,.slice ly xs.length lc] 154);have b6a:=(hVr.cells.keeps kA4).cell 6;have ownA:=AH hVr.cls kA4;have HVr:=AD hVr;clear hres hdz hVr Hlat b6;go_upto_region 10 with fail
     go_cut [] (fun wd=>∃ gg cap,VJ wr wd mb B m tD mD sz tN mN co (.slice aD m.clauses.length cD) (.slice aL m.clauses.length cL) kvs [.int .i64 (x.rel:Int),.slice ta x.terms.length tc,.slice ly xs.length lc] gg cap)
     case first=>
      go_region_law (first
       | (refine step_append_lies _ (by rfl) _ _ _ (by rfl) mb 154 i1 _ 3 56 underlying124 hi1 hy0 hy1 hy2 rfl (by omega) (.slice aD m.clauses.length cD) m.clauses.length kvs (by rfl) (AH ownA (AA.drew [] _)) ⟨wr.heap.size,0,none⟩ 1 1 [.int .i64 (x.rel:Int),.slice ta x.terms.length tc,.slice ly xs.length lc] (by rfl) (by rfl) (NA (W:=wr)) (by simp [Value.oneCell']) (by omega) (by unfold maxLen;omega) (by omega) (by show mb≤(wr.alloc _).heap.size;rw [AX];omega) (wr.heap.size+1) (by show (wr.alloc _).heap.size=_;rw [AX]) ?_
          intro gg cap w5 hown5 hgrow hat hlt5;obtain ⟨hG,hB5⟩:=VJ.of (kA4.trans (AA.drew [] _)) HVr.out hown5 hgrow hat;have HG:=AD hG;have d6:=hB5.cell 6;have f6:=hB5.frozen 6
          clear hG hB5))
      all_goals
       go_wp2_with fail
       go_meet
       exact ⟨_,_,HG.out⟩
     case rest=>
      obtain ⟨gg,cap,hG⟩:=hcut;have hf:=HV.out.foot;rw [Iq] at hf;have hfl:=HV.out.foot_lt;rw [Iq] at hfl;have hBn:∀ j∈Aa (.slice aD m.clauses.length cD),mb≤j∧j<w.heap.size:=fun j hj=>hfl j (by simp [hj]);have hln:∀ j∈Aa (.slice aL m.clauses.length cL),j∉[B]++Aa (.slice aD m.clauses.length cD):=fun j hj q=>by
       rcases AC.1 q with q | q
       ·have e:j=B:=(by simpa using q);exact ((Cn hf).1 j (by simp [hj])).1 (by rw [e];simp [Io])
       ·have h2:(Io B tD mD sz tN mN co++Aa (.slice aD m.clauses.length cD)++Aa (.slice aL m.clauses.length cL)).Nodup:=(by simpa using hf);exact ((Cn h2).2 j hj).2 q
      have hAc:=HC.out.arg.keeps hG.keep (fun q=>by
       rcases AC.1 q with q | q
       ·have e:w.heap.size=B:=(by simpa using q);omega
       ·have:=(hBn _ q).2;omega)
      have hlr:=AH HVr.out.lines hG.keep (fun j hj=>hln j (by simp [Aa,hj]));have kA5:=AA.alloc [] wc (.cells #[.int .i64 (a.name.line:Int)] 3);have b7:=hG.cells.cell 7;have b7a:=(hG.cells.keeps kA5).cell 7;have a2:=hAc.cell 2;have a2a:=(hAc.keeps kA5).cell 2;have ownB:=AH hlr kA5;have hsc:=hG.keep.size;have hBc:=hG.cells.lt;have HG:=AD hG;clear hG hf hfl hBn hln hAc hlr b6r c0 c1 c2 kA4 b6a ownA;go_wp2_with fail
      go_region_law (first
       | (refine step_append_lies _ (by rfl) _ _ _ (by rfl) mb 3 i3 _ 1 8 underlying40 hi3 hw0 hw1 hw2 rfl (by omega) (.slice aL m.clauses.length cL) m.clauses.length (Ft (m.clauses.map (·.line))) (by rfl) (AH ownB (AA.drew [] _)) ⟨wc.heap.size,0,none⟩ 1 1 [.int .i64 (a.name.line:Int)] (by rfl) (by rfl) (OA (W:=wc)) (by simp [Value.oneCell']) (by omega) (by unfold maxLen;omega) (by omega) (by show mb≤(wc.alloc _).heap.size;rw [AX];omega) (wc.heap.size+1) (by show (wc.alloc _).heap.size=_;rw [AX]) ?_
          intro g2 cap2 w5 hown5 hgrow hat hlt5;obtain ⟨hB5,hEnd,hKeep⟩:=Uy (kA5.trans (AA.drew [] _)) HV.out hmb HC.out HG.out hown5 hgrow hat;have HE:=AD hEnd;have HK:=AD hKeep;have d7:=hB5.cell 7;have f7:=hB5.frozen 7
          clear hEnd hKeep hB5))
      all_goals
       go_wp2_with fail
       go_end0
       refine ⟨?_,HK.out⟩;rw [←Hres.out];exact ⟨rfl,HE.out⟩
end
end Go.Proofs.YtgjomknpjigkhaaGreatDoor
