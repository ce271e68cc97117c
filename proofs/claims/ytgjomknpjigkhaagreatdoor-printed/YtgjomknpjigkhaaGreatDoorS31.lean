import Derived.Test.YtgjomknpjigkhaaGreatDoorS30
namespace Go.Proofs.YtgjomknpjigkhaaGreatDoor
set_option maxRecDepth 100000
set_option maxHeartbeats 4000000
section
open Go.RowKit
theorem AtL.toks {w wr:World} {base S B D:Nat} {X:List Nat} {n:Tn} {tav:Value} {r:Nat} {sc:Scope} {xs:List TermM} {tv:Value} (h:AtL w wr base S B D X n tav r sc xs tv) {T:List Nat} {w':World} (k:Keeps T wr w') (hT:∀ j∈T,base≤j∧j∉X++[w.heap.size,w.heap.size+1,D]++ownL tv):CellsAt w' D #[.int .i64 (r:Int),tv]∧w'.ownsRow w.heap.size 220 2 tv xs.length (termCs xs):=
 ⟨h.at_.keeps k (fun q=>(hT D q).2 (by simp)),ownsRow_kept h.row k (fun j hj q=>(hT j q).2 (List.mem_append_right _ (by simp [ownL,hj])))⟩
theorem keeps_low {w0 w wr:World} {base:Nat} (k0:Keeps [] w0 w) (hb:w0.heap.size≤base) {T:List Nat} (k:Keeps T w wr) (hT:∀ j∈T,base≤j):Keeps [] w0 wr:=k0.trans_new k (fun j hj=>.inr (Nat.le_trans hb (hT j hj)))
theorem two_cells {W:World} {a b:Value} {t:TypeId}:∀ (j:Nat) (x:Value),[a,b][j]?=some x→(W.alloc (.cells #[a,b] t)).cell? ((⟨W.heap.size,0,none⟩:Addr).add j)=some x:=by
 intro j x hx
 rw [Addr.add_lit,Nat.zero_add,(CellsAt.new W #[a,b] t).cell]
 match j with
 | 0=>simpa using hx
 | 1=>simpa using hx
 | j+2=>simp at hx
def toAtom (r:Nat):Except Flt (List TermM×Scope)→Except Flt (AtomM×Scope)
 | .ok (xs,sc)=>.ok (⟨r,xs⟩,sc)
 | .error f=>.error f
set_option maxHeartbeats 8000000 in
theorem atom_walk {w0 w:World} {base S B mb ib:Nat} {sc:Scope} {m:Mean} {X:List Nat} (hm:MeanAt w0 mb B m) (hok:MeanOk m) (k0:Keeps [] w0 w) (hb0:w0.heap.size≤base) (hbase:base≤w.heap.size) (h:ScopeX w base S B sc X) (hX:∀ j∈X,j<w.heap.size) (hon:Once sc) (h4:sc.length≤4) (a:AtomI) {av:Option Addr} {cc:Nat} (hcv:w0.ownsRow ib 129 3 (.slice av a.terms.length cc) a.terms.length (tokCs a.terms)) (htl:a.terms.length≤1000000) (htt:∀ t∈a.terms,isTermG t.g=true∧WfG t.g) {r:Nat} (hr:m.rel (txt a.name.g)=some r) {s:ByteArray} {ds:List Nat} (hrs:m.rels[r]?=some (s,ds)) (hne:a.terms.length=ds.length):Calls Tryz.prog 339 #[.pointer (some ⟨S,0,none⟩),.agg #[.string (kindOf a.name.g),.string (txt a.name.g),.int .i64 a.name.line,.slice av a.terms.length cc]] w fun e w'=>AtomMTo w.heap.size base S B X (toAtom r (termsS m sc a.terms ds)) e w'∧∃ T,Keeps T w w'∧∀ j∈T,base≤j∧j∉X:=by
 obtain ⟨i0,hi0,hz0,hz1,hz2⟩:=info_parts info220
 obtain ⟨hSl,hS⟩:=scope_head h.to
 have hBl:=mean_lt hm
 have hsz0:=k0.size
 have hpl:=hide (fun (W:World) (k:Keeps [] w W)=>mean_place hm (txt a.name.g) (k0.trans k))
 rw [hr] at hpl
 obtain ⟨gc,cc',av',cv',hgl,hdg,hcols⟩:=mean_col hm hrs
 have hrl':r<m.rels.length:=placeIn_lt hr
 have hds:∀ d∈ds,d<m.doms.length:=(hok.cols _ (List.mem_of_getElem? hrs)).2
 have kA:=Keeps.alloc [] w (.cells #[.string (kindOf a.name.g),.string (txt a.name.g),.int .i64 a.name.line,.slice av a.terms.length cc] 327)
 have kB:=kA.trans (Keeps.alloc [] _ (.cells #[.int .i64 0,.slice none 0 0] 151))
 have hA:=(CellsAt.new w #[.string (kindOf a.name.g),.string (txt a.name.g),.int .i64 a.name.line,.slice av a.terms.length cc] 327).keeps (Keeps.alloc [] _ (.cells #[.int .i64 0,.slice none 0 0] 151)) (by simp)
 have hR:=CellsAt.new (w.alloc (.cells #[.string (kindOf a.name.g),.string (txt a.name.g),.int .i64 a.name.line,.slice av a.terms.length cc] 327)) #[.int .i64 0,.slice none 0 0] 151
 rw [sizeE_alloc] at hR
 have s0:=hS kB
 have a0:=hA.cell 0
 have a1:=hA.cell 1
 have a2:=hA.cell 2
 have hno:=hide (fun (w:World)=>refuse_no (w:=w) a.name 8)
 have hno2:=hide (fun (w:World)=>refuse_no (w:=w) a.name 10)
 have Hc:=hide (fun (W:World) (k:Keeps [] w0 W)=>(⟨(hcols k).1,(hcols k).2.1⟩:_∧_))
 have Hcd:=hide (fun (W:World) (k:Keeps [] w0 W)=>(hcols k).2.2)
 have HS:=hide (fun (W:World) (k:Keeps [] w W)=>hS k)
 have HA:=hide hA
 have HRr:=hide hR
 have hneI:((a.terms.length:Int) != (ds.length:Int))=false:=by rw [bne_eq_false_iff_eq];omega
 have hrI:(r:Int)<m.rels.length:=by omega
 have Htm:=hide (fun (W:World) (k:Keeps [] w0 W) (sc:Scope) (X:List Nat) (h:ScopeX W base S B sc X) (hX:∀ j∈X,j<W.heap.size) (hb:base≤W.heap.size) (t:Tn) (ht:isTermG t.g=true∧WfG t.g) (d:Nat) (hd:d<m.doms.length) (hl:sc.length≤4)=>termM_calls (hm.keeps k (by simp)) h hX hb t ht.1 ht.2 d hd hl)
 have Hsc:=hide h
 have Hcv:=hide hcv
 have Hdg:=hide hdg
 have Hds:=hide hds
 have Htt:=hide htt
 have HX:=hide hX
 generalize hRR:termsS m sc a.terms ds=RR
 have HRR:=hide hRR
 have Hne:=hide hne
 clear hm h hS hr hcols hA hR hdg hds htt hcv hX hRR hne
 go_enter Tryz.func339,Tryz.ntmps339
 go_wp2_with fail
 go_quiet (first | (go_at_call 77;exact (hpl.out _ (kB.trans (Keeps.drewN _ _ _))).mono fun _ _ h=>⟨h.1,_,h.2⟩))
 go_wp2_with fail
 refine (hno.out _).mono ?_
 rintro e w3 ⟨rfl,rfl⟩
 generalize hWW:((w.alloc (.cells #[.string (kindOf a.name.g),.string (txt a.name.g),.int .i64 a.name.line,.slice av a.terms.length cc] 327)).alloc (.cells #[.int .i64 0,.slice none 0 0] 151))=W1 at *
 have k3:=(Keeps.drewN [] W1 nq).trans (Keeps.alloc [] _ (.cells #[.string (kindOf a.name.g),.string (txt a.name.g),.int .i64 a.name.line] 129))
 have kw3:=kB.trans k3
 have hA3:=HA.out.keeps k3 (by simp)
 have hR3:=HRr.out.keeps k3 (by simp)
 obtain ⟨c5,cr⟩:=Hc.out _ (k0.trans kw3)
 have s3:=HS.out _ kw3
 generalize (W1.drewN nq).alloc (.cells #[.string (kindOf a.name.g),.string (txt a.name.g),.int .i64 a.name.line] 129)=W3 at *
 have b0:=hA3.cell 0
 have b1:=hA3.cell 1
 have b2:=hA3.cell 2
 have b3:=hA3.cell 3
 clear HA HRr k3 kB kA hWW s0 a0 a1 a2 hno hpl
 go_wp2_with fail
 refine (hno2.out _).mono ?_
 rintro e w4 ⟨rfl,rfl⟩
 have kw4:=kw3.trans (Keeps.alloc [] W3 (.cells #[.string (kindOf a.name.g),.string (txt a.name.g),.int .i64 a.name.line] 129))
 have hA4:=hA3.keeps (Keeps.alloc [] W3 (.cells #[.string (kindOf a.name.g),.string (txt a.name.g),.int .i64 a.name.line] 129)) (by simp)
 have hR4:=hR3.keeps (Keeps.alloc [] W3 (.cells #[.string (kindOf a.name.g),.string (txt a.name.g),.int .i64 a.name.line] 129)) (by simp)
 generalize W3.alloc (.cells #[.string (kindOf a.name.g),.string (txt a.name.g),.int .i64 a.name.line] 129)=W4 at *
 have kD:=Keeps.alloc [] W4 (.cells #[.int .i64 (r:Int),.slice none 0 0] 151)
 have hRl:=hR4.lt
 have hAt0:AtL w (W4.alloc (.cells #[.int .i64 (r:Int),.slice none 0 0] 151)) base S B W4.heap.size X a.name (.slice av a.terms.length cc) r sc [] (.slice none 0 0):=
  ⟨hA4.keeps kD (by simp),hR4.keeps kD (by simp),CellsAt.new W4 _ 151,World.ownsRow_nil ..,fun j hj=>by simp [ownL,Value.ownBlock] at hj,by
   refine ((Hsc.out.mono (G:=fun j=>j∉X∧j<w.heap.size) (fun j _ h2 h3=>⟨h3,h2⟩)).keeps (kw4.trans kD) (by simp)).mono (fun j _ _ q hx=>?_)
   simp only [List.mem_append,List.mem_cons,List.not_mem_nil,or_false,ownL,Value.ownBlock,Option.toList_none] at hx
   rcases hx with hx | hx | hx | hx
   ·exact q.1 hx
   ·omega
   ·omega
   ·omega,⟨[],kw4.trans kD,by simp⟩,by omega⟩
 have b3:=hA4.cell 3
 have bD:=hAt0.at_.cell 0
 have HAt0:=hide hAt0
 have hA5:=hAt0.arg.cell 3
 clear hAt0 hA3 hR3 kw3 hA4 hR4 c5 cr s3 b0 b1 b2 hno2 Hsc kD hneI kw4
 go_wp2_with fail
 go_loopw [53] (fun x wr=>∃ (i:Nat) (sci:Scope) (xs:List TermM) (tv:Value),x=.int .i64 i∧i=xs.length∧i≤a.terms.length∧AtL w wr base S B W4.heap.size X a.name (.slice av a.terms.length cc) r sci xs tv∧Once sci∧sci.length≤4∧aheadX xs (termsS m sci (a.terms.drop i) (ds.drop i))=RR) (fun x _=>a.terms.length - (intOf x).toNat)
 case atStart=>exact ⟨0,sc,[],.slice none 0 0,rfl,rfl,by omega,HAt0.out,hon,h4,by rw [List.drop_zero,List.drop_zero,HRR.out];cases RR <;> rfl⟩
 case round=>
  clear b3 bD HAt0 hA5 HRR HS Hc
  obtain ⟨i,sci,xs,tv,rfl,hix,hil,hAt,hoi,h4i,hres⟩:=hrel
  obtain ⟨T0,kT0,hT0⟩:=hAt.keep
  have kw:Keeps [] w0 wr:=keeps_low k0 hb0 kT0 (fun j hj=>(hT0 j hj).1)
  have hszr:=kT0.size
  have hXr:=hAt.lt HX.out
  obtain ⟨ay,cy,hy⟩:=ownE_len hAt.row
  subst hy
  have HAt:=hide hAt
  have Hix:=hide hix
  have HXr:=hide hXr
  have hxl:xs.length≤a.terms.length:=by omega
  clear hAt hix hXr
  by_cases hlt:i<a.terms.length
  ·obtain ⟨t,ht⟩:∃ t,a.terms[i]?=some t:=⟨_,List.getElem?_eq_getElem hlt⟩
   have hld:i<ds.length:=by have:=Hne.out;omega
   obtain ⟨d,hd⟩:∃ d,ds[i]?=some d:=⟨_,List.getElem?_eq_getElem hld⟩
   have hdt:a.terms.drop i=t :: a.terms.drop (i+1):=by
    rw [List.drop_eq_getElem_cons hlt]
    congr 1
    rw [List.getElem?_eq_getElem hlt] at ht
    exact Option.some.inj ht
   have hdd:ds.drop i=d :: ds.drop (i+1):=by
    rw [List.drop_eq_getElem_cons hld]
    congr 1
    rw [List.getElem?_eq_getElem hld] at hd
    exact Option.some.inj hd
   rw [hdt,hdd,termsS] at hres
   have hcr:=ownsRow_kept Hcv.out kw (by simp)
   obtain ⟨gt,hgt⟩:=ownE_pos2 hcr (by omega)
   subst hgt
   obtain ⟨tcs,ht1,ht2⟩:=rowPTok hcr
   obtain ⟨t0,t1,t2⟩:=ht2 i t ht
   rw [Nat.zero_add] at t0 t1 t2
   have c0:wr.cell? ⟨gt,i * 3,none⟩=some (.string (kindOf t.g)):=by rw [ht1.cell];exact t0
   have c1:wr.cell? ⟨gt,i * 3+1,none⟩=some (.string (txt t.g)):=by rw [ht1.cell];exact t1
   have c2:wr.cell? ⟨gt,i * 3+2,none⟩=some (.int .i64 t.line):=by rw [ht1.cell];exact t2
   obtain ⟨gd,hgd,hgdl⟩:=Hdg.out d (List.mem_of_getElem? hd)
   subst hgd
   have kK:=Keeps.alloc [] wr (.cells #[.string (kindOf t.g),.string (txt t.g),.int .i64 t.line] 129)
   have hK:=CellsAt.new wr #[.string (kindOf t.g),.string (txt t.g),.int .i64 t.line] 129
   have q0:=Hcd.out _ (kw.trans kK) i d gd hd rfl
   have e0:=hK.cell 0
   have e1:=hK.cell 1
   have e2:=hK.cell 2
   have d1:=(HAt.out.at_.keeps kK (by simp)).cell 1
   have kKd:=kK.trans (Keeps.drew [] _)
   have hcall:=hide (Htm.out _ (kw.trans kKd) sci _ (HAt.out.sc.keeps kKd (by simp)) (fun j hj=>Nat.lt_of_lt_of_le (HXr.out j hj) kKd.size) (by have:=kKd.size;omega) t (Htt.out t (List.mem_of_getElem? ht)) d (Hds.out d (List.mem_of_getElem? hd)) h4i)
   have hiI:(i:Int)<a.terms.length:=by omega
   have hiD:(i:Int)<ds.length:=by omega
   have hgtl:=ht1.lt
   clear ht1 ht2 t0 t1 t2 hcr hdt hdd Htm Hcd Hdg
   cases hr3:termS m sci t d with
   | error f=>
    rw [hr3] at hcall hres
    have Hres:=hide hres
    clear hres hr3 hd ht
    go_wp2_with fail
    go_region_law (first
     | (refine step_dies2 rfl 340 _ _ rfl _ Tryz.func340 (by kernel_rfl) (by kernel_rfl) [.pointer (some ⟨S,0,none⟩),tokV t,.int .i64 (d:Int)] rfl (.agg #[.bool false,.int .i64 0]) ?_ ?_
        ·refine hcall.out.mono ?_
         rintro e w1 ⟨rfl,T4,k4,hT4⟩
         refine ⟨rfl,?_,T0++T4,(kT0.mono (fun i hi=>List.mem_append_left _ hi)).trans ((kKd.mono (by simp)).trans (k4.mono (fun i hi=>List.mem_append_right _ hi))),fun j hj=>?_⟩
         ·rw [←Hres.out];rfl
         ·rcases List.mem_append.1 hj with q | q
          ·exact hT0 j q
          ·exact ⟨(hT4 j q).1,fun hx=>(hT4 j q).2 (by simp [hx])⟩
        intro hf
        have d2:=(HAt.out.at_.keeps (kK.trans (Keeps.alloc [] _ (.cells #[.bool false,.int .i64 0] 220))) (by simp)).cell 1
        have f2:=(HAt.out.at_.keeps (kK.trans (Keeps.alloc [] _ (.cells #[.bool false,.int .i64 0] 220))) (by simp)).frozen 1)
     | (refine step_void hf (.slice none 0 0) ?_))
    all_goals exact (hf.out).elim
   | ok q=>
    obtain ⟨x,sc'⟩:=q
    rw [hr3] at hcall hres
    have hmt:=termS_match hoi h4i hr3
    have hah:aheadX (xs++[x]) (termsS m sc' (a.terms.drop (i+1)) (ds.drop (i+1)))=RR:=by
     rw [←hres]
     show _=aheadX xs (match termsS m sc' (a.terms.drop (i+1)) (ds.drop (i+1)) with
      | .error f=>Except.error f
      | .ok (xs,sc'')=>.ok (x :: xs,sc''))
     cases termsS m sc' (a.terms.drop (i+1)) (ds.drop (i+1)) with
     | error f=>rfl
     | ok q=>simp [aheadX]
    have Hah:=hide hah
    have Hmt:=hide hmt
    clear hres hah hmt hr3 hd ht hoi
    go_wp2_with fail
    go_region_law (first
     | (refine step_callA rfl 340 _ _ rfl _ Tryz.func340 (by kernel_rfl) (by kernel_rfl) [.pointer (some ⟨S,0,none⟩),tokV t,.int .i64 (d:Int)] rfl ?_
        refine hcall.out.mono ?_
        rintro e w4 ⟨⟨rfl,hs4⟩,T4,k4,hT4⟩
        have hk4:=(kKd.mono (fun i hi=>by cases hi)).trans k4
        obtain ⟨hD4,row4⟩:=HAt.out.toks hk4 hT4
        have hD4A:=hD4.keeps (Keeps.alloc [] w4 (.cells #[.bool x.isVar,.int .i64 x.num] 220)) (by simp)
        have row4A:=ownsRow_kept row4 (Keeps.alloc [] w4 (.cells #[.bool x.isVar,.int .i64 x.num] 220)) (by simp)
        have hs4z:w.heap.size≤w4.heap.size:=Nat.le_trans hszr hk4.size
        have f1:=hD4.cell 1
        have f2:=hD4A.cell 1)
     | (refine step_append_lies _ (by rfl) _ _ _ (by rfl) w.heap.size 220 i0 _ 2 16 Tryz.underlying149 hi0 hz0 hz1 hz2 rfl (by omega) (.slice ay xs.length cy) xs.length (termCs xs) (by rfl) row4A ⟨w4.heap.size,0,none⟩ 1 1 [.bool x.isVar,.int .i64 x.num] (by rfl) (by rfl) (two_cells (W:=w4)) (by simp [Value.oneCell']) (by omega) (by unfold maxLen;omega) (by omega) (by rw [sizeE_alloc];omega) (w4.heap.size+1) (by rw [sizeE_alloc]) ?_
        intro gg cap w5 hown5 hgrow hat hlt5
        have k6:=grownBy_keeps' hgrow (ownL (.slice ay xs.length cy)) (fun r e=>.inl (by simp [ownL,e]))
        have hD5:=hD4A.keeps k6 (fun q=>HAt.out.rowA _ q (by simp))
        have d4g:=hD5.cell 1
        have f4g:=hD5.frozen 1
        have hNew:=hide (HAt.out.step HX.out hk4 hT4 hs4 hgrow hown5 hat)
        clear hD5 k6))
    all_goals
     go_wp2_with fail
     go_roundw
     ·exact ⟨i+1,sc',xs++[x],_,by simp,by rw [List.length_append,List.length_singleton,←Hix.out],by omega,hNew.out,Hmt.out.2.2.1,Hmt.out.2.2.2,Hah.out⟩
     ·simp only [intOf];omega
  ·have hiI:¬ (i:Int)<a.terms.length:=by omega
   have hdz:a.terms.drop i=[]:=List.drop_eq_nil_of_le (by omega)
   rw [hdz,termsS] at hres
   ·simp only [aheadX,List.append_nil] at hres
    have Hres:=hide hres
    have d0:=HAt.out.at_.cell 0
    have d1:=HAt.out.at_.cell 1
    obtain ⟨c0,f0,c1,f1,hat,hk⟩:=res2 HAt.out.res (.int .i64 (r:Int)) (.slice ay xs.length cy)
    have Hat:=hide hat
    have Hk:=hide hk
    clear hres hat hk hdz
    go_wp2_with fail
    refine bodyPost_ret (v:=.agg #[.int .i64 (r:Int),.slice ay xs.length cy]) (ret_cell (p:=4) (ty:=151) (by kernel_rfl) _ Hat.out Tryz.underlying151 size151 rfl) rfl ⟨?_,T0,kT0.trans_new Hk.out (fun j hj=>.inr (by have e:j=w.heap.size+1:=(by simpa using hj);omega)),hT0⟩
    rw [←Hres.out]
    refine ⟨_,rfl,ownsRow_kept HAt.out.row Hk.out (fun j hj q=>HAt.out.rowA j (by simp [ownL,hj]) (by have e:j=w.heap.size+1:=(by simpa using q);rw [e];simp)),(HAt.out.sc.keeps Hk.out (fun j hj q=>q (by have e:j=w.heap.size+1:=(by simpa using hj);rw [e];simp))).mono (fun j _ _ q hx=>q ?_)⟩
    simp only [List.mem_append] at hx ⊢
    rcases hx with hx | hx
    ·exact .inl (.inl hx)
    ·exact .inr hx
   ·intro t ts d ds h1;cases h1
end
section
open Go.RowKit
theorem atomM_calls {w0 w:World} {base S B mb ib:Nat} {sc:Scope} {m:Mean} {X:List Nat} (hm:MeanAt w0 mb B m) (hok:MeanOk m) (k0:Keeps [] w0 w) (hb0:w0.heap.size≤base) (hbase:base≤w.heap.size) (h:ScopeX w base S B sc X) (hX:∀ j∈X,j<w.heap.size) (hon:Once sc) (h4:sc.length≤4) (a:AtomI) {av:Option Addr} {cc:Nat} (hcv:w0.ownsRow ib 129 3 (.slice av a.terms.length cc) a.terms.length (tokCs a.terms)) (htl:a.terms.length≤1000000) (htt:∀ t∈a.terms,isTermG t.g=true∧WfG t.g):Calls Tryz.prog 339 #[.pointer (some ⟨S,0,none⟩),.agg #[.string (kindOf a.name.g),.string (txt a.name.g),.int .i64 a.name.line,.slice av a.terms.length cc]] w fun e w'=>AtomMTo w.heap.size base S B X (atomS m sc a) e w'∧∃ T,Keeps T w w'∧∀ j∈T,base≤j∧j∉X:=by
 unfold atomS
 cases hr:m.rel (txt a.name.g) with
 | none=>
  refine (atom_none (hm.keeps k0 (by simp)) h.to a.name av a.terms.length cc hr).mono ?_
  rintro e w' ⟨rfl,k⟩
  exact ⟨rfl,[],k,by simp⟩
 | some r=>
  obtain ⟨ds,hds⟩:=placeIn_some hr
  have hc:m.cols r=ds:=by simp [Mean.cols,hds]
  simp only
  rw [hc]
  by_cases hne:a.terms.length=ds.length
  ·rw [if_neg (by simp [hne])]
   have key:=atom_walk hm hok k0 hb0 hbase h hX hon h4 a hcv htl htt hr hds hne
   cases ht:termsS m sc a.terms ds with
   | error f=>rw [ht] at key;exact key
   | ok q=>rw [ht] at key;exact key
  ·rw [if_pos hne]
   refine (atom_arity (hm.keeps k0 (by simp)) h.to a.name av a.terms.length cc hr hds hne).mono ?_
   rintro e w' ⟨rfl,k⟩
   exact ⟨rfl,[],k,by simp⟩
def ownLs (vs:List Value):List Nat:=vs.flatMap ownL
section
variable {w w':World} {base base':Nat} {X Y T:List Nat}
theorem LitMs.kept {ls:List (AtomM×Bool)} {vs:List Value} (h:LitMs w base X ls vs) (k:Keeps T w w') (hT:∀ j∈T,j∉ownLs vs):LitMs w' base X ls vs:=by
 induction ls generalizing vs with
 | nil=>exact h
 | cons r rs ih=>
  obtain ⟨v,rest,h1,h2,h3,h4⟩:=h
  subst h1
  exact ⟨v,rest,rfl,ownsRow_kept h2 k (fun j hj hx=>hT j hx (by simp [ownLs,ownL,hj])),h3,ih h4 (fun j hj q=>hT j hj (by simp [ownLs] at q ⊢;exact .inr (.inr (.inr q))))⟩
theorem LitMs.lt {ls:List (AtomM×Bool)} {vs:List Value} (h:LitMs w base X ls vs):∀ j∈ownLs vs,base≤j∧j<w.heap.size:=by
 induction ls generalizing vs with
 | nil=>have e:vs=[]:=h;subst e;intro j hj;simp [ownLs] at hj
 | cons r rs ih=>
  obtain ⟨v,rest,h1,h2,h3,h4⟩:=h
  subst h1
  intro j hj
  have hj':j∈ownL v∨j∈ownLs rest:=by simpa [ownLs,ownL,Value.ownBlock] using hj
  rcases hj' with q | q
  ·exact ownL_at h2 j q
  ·exact ih h4 j q
theorem LitMs.far {ls:List (AtomM×Bool)} {vs:List Value} (h:LitMs w base X ls vs) (hY:∀ j∈ownLs vs,j∉Y):LitMs w base Y ls vs:=by
 induction ls generalizing vs with
 | nil=>exact h
 | cons r rs ih=>
  obtain ⟨v,rest,h1,h2,h3,h4⟩:=h
  subst h1
  exact ⟨v,rest,rfl,h2,fun j hj=>hY j (by simp [ownLs,hj]),ih h4 (fun j hj=>hY j (by simp [ownLs] at hj ⊢;exact .inr (.inr (.inr hj))))⟩
theorem LitMs.mono {ls:List (AtomM×Bool)} {vs:List Value} (h:LitMs w base X ls vs) (hb:base'≤base):LitMs w base' X ls vs:=by
 induction ls generalizing vs with
 | nil=>exact h
 | cons r rs ih=>
  obtain ⟨v,rest,h1,h2,h3,h4⟩:=h
  exact ⟨v,rest,h1,ownE_mono h2 hb,h3,ih h4⟩
end
theorem ownLs_lit (ls:List Value) (a b:Value) (tv:Value) (ha:ownL a=[]) (hb:ownL b=[]):ownLs (ls++[a,tv,b])=ownLs ls++ownL tv:=by simp [ownLs,ha,hb]
structure ClL (w wr:World) (S B C:Nat) (n:Tn) (tav lav:Value) (sc:Scope) (hx:AtomM) (hv:Value) (xs:List (AtomM×Bool)) (lv:Value) (ls:List Value):Prop where
 arg:CellsAt wr w.heap.size #[.string (kindOf n.g),.string (txt n.g),.int .i64 n.line,tav,lav]
 cl:CellsAt wr C #[.int .i64 (hx.rel:Int),hv,lv]
 low:w.heap.size+1≤C
 hrow:wr.ownsRow w.heap.size 220 2 hv hx.terms.length (termCs hx.terms)
 lrow:wr.ownsRow w.heap.size 279 3 lv xs.length ls
 lits:LitMs wr w.heap.size [] xs ls
 far:∀ j∈ownL hv++ownL lv++ownLs ls,j≠w.heap.size∧j≠C
 lone:∀ j∈ownL lv,j∉ownL hv∧j∉ownLs ls
 sc:ScopeX wr w.heap.size S B sc ([w.heap.size,C]++(ownL hv++ownL lv++ownLs ls))
 keep:Keeps [] w wr
theorem ClL.lt {w wr:World} {S B C:Nat} {n:Tn} {tav lav:Value} {sc:Scope} {hx:AtomM} {hv:Value} {xs:List (AtomM×Bool)} {lv:Value} {ls:List Value} (h:ClL w wr S B C n tav lav sc hx hv xs lv ls):∀ j∈[w.heap.size,C]++(ownL hv++ownL lv++ownLs ls),w.heap.size≤j∧j<wr.heap.size:=fun j hj=>by
 have h1:=h.arg.lt
 have h2:=h.cl.lt
 have h3:=h.low
 simp only [List.mem_append,List.mem_cons,List.not_mem_nil,or_false] at hj
 rcases hj with (hj | hj) | (hj | hj) | hj
 ·omega
 ·omega
 ·exact ownL_at h.hrow j hj
 ·exact ownL_at h.lrow j hj
 ·exact h.lits.lt j hj
theorem ClL.kept {w wr w4:World} {S B C:Nat} {n:Tn} {tav lav:Value} {sc sc':Scope} {hx:AtomM} {hv:Value} {xs:List (AtomM×Bool)} {lv:Value} {ls:List Value} {T4:List Nat} (h:ClL w wr S B C n tav lav sc hx hv xs lv ls) (k4:Keeps T4 wr w4) (hT4:∀ j∈T4,w.heap.size≤j∧j∉[w.heap.size,C]++(ownL hv++ownL lv++ownLs ls)) (hs4:ScopeX w4 w.heap.size S B sc' ([w.heap.size,C]++(ownL hv++ownL lv++ownLs ls))):ClL w w4 S B C n tav lav sc' hx hv xs lv ls:=by
 have nT:∀ j∈[w.heap.size,C]++(ownL hv++ownL lv++ownLs ls),j∉T4:=fun j hj q=>(hT4 j q).2 hj
 exact ⟨h.arg.keeps k4 (nT _ (by simp)),h.cl.keeps k4 (nT _ (by simp)),h.low,ownsRow_kept h.hrow k4 (fun j hj=>nT j (by simp [ownL,hj])),ownsRow_kept h.lrow k4 (fun j hj=>nT j (by simp [ownL,hj])),h.lits.kept k4 (fun j hj q=>(hT4 j hj).2 (by simp [q])),h.far,h.lone,hs4,h.keep.trans_new k4 (fun j hj=>.inr (hT4 j hj).1)⟩
theorem ClL.step {w w4 w5:World} {S B C z:Nat} {n:Tn} {tav lav:Value} {sc:Scope} {hx:AtomM} {hv:Value} {xs:List (AtomM×Bool)} {lv:Value} {ls:List Value} {x:AtomM} {no:Bool} {tv:Value} (h:ClL w w4 S B C n tav lav sc hx hv xs lv ls) (hz:∀ j∈[w.heap.size,C]++(ownL hv++ownL lv++ownLs ls),j<z) (hrow:w4.ownsRow z 220 2 tv x.terms.length (termCs x.terms)) (hs4:ScopeX w4 w.heap.size S B sc ([w.heap.size,C]++(ownL hv++ownL lv++ownLs ls)++ownL tv)) {o:Obj} (hgrow:(w4.alloc o).grownBy w5 lv.ownBlock) {gg cap:Nat} (hown:w5.ownsRow w.heap.size 279 3 (.slice (some ⟨gg,0,none⟩) (xs.length+1) cap) (xs.length+1) (ls++[.int .i64 (x.rel:Int),tv,.bool no])) (hat:lv.ownBlock=some gg∨gg=w4.heap.size+1):ClL w (w5.setCell ⟨C,2,none⟩ (.slice (some ⟨gg,0,none⟩) (xs.length+1) cap)) S B C n tav lav sc hx hv (xs++[(x,no)]) (.slice (some ⟨gg,0,none⟩) (xs.length+1) cap) (ls++[.int .i64 (x.rel:Int),tv,.bool no]):=by
 have hL:=h.lt
 have k5:=grownBy_keeps' hgrow (ownL lv) (fun r e=>.inl (by simp [ownL,e]))
 have kA:=Keeps.alloc [] w4 o
 have ks:=Keeps.setCell w5 ⟨C,2,none⟩ (.slice (some ⟨gg,0,none⟩) (xs.length+1) cap)
 have hA:=h.arg.lt
 have hC:=h.cl.lt
 have hlow:=h.low
 have htv:∀ j∈ownL tv,z≤j∧j<w4.heap.size:=fun j hj=>ownL_at hrow j hj
 have hzC:=hz C (by simp)
 have hzA:=hz w.heap.size (by simp)
 have hgg:gg∈ownL lv∨gg=w4.heap.size+1:=by
  rcases hat with q | q
  ·left;simp [ownL,q]
  ·exact .inr q
 have hggC:gg≠w.heap.size∧gg≠C:=by
  rcases hgg with q | q
  ·exact h.far gg (by simp [q])
  ·omega
 have e0:ownLs (ls++[.int .i64 (x.rel:Int),tv,.bool no])=ownLs ls++ownL tv:=ownLs_lit _ _ _ _ rfl rfl
 have eg:ownL (.slice (some ⟨gg,0,none⟩) (xs.length+1) cap)=[gg]:=rfl
 have hlvC:C∉ownL lv∧w.heap.size∉ownL lv:=⟨fun q=>(h.far C (by simp [q])).2 rfl,fun q=>(h.far _ (by simp [q])).1 rfl⟩
 have hlt:∀ j∈ownL hv++ownLs ls,j∉ownL lv:=fun j hj q=>by
  rcases List.mem_append.1 hj with p | p
  ·exact (h.lone j q).1 p
  ·exact (h.lone j q).2 p
 have hneC:∀ j∈ownL hv++ownLs ls,j∉[C]:=fun j hj q=>by
  have e:j=C:=(by simpa using q)
  refine (h.far j ?_).2 e
  rcases List.mem_append.1 hj with p | p <;> simp [p]
 have htvlv:∀ j∈ownL tv,j∉ownL lv∧j∉[C]∧j≠w.heap.size:=fun j hj=>by
  have h1:=htv j hj
  refine ⟨fun q=>?_,by simp;omega,by omega⟩
  have:=hz j (by simp [q]);omega
 refine ⟨((h.arg.keeps kA (by simp)).keeps k5 hlvC.2).keeps ks (by simp;omega),((h.cl.keeps kA (by simp)).keeps k5 hlvC.1).setCell 2 _,h.low,?_,?_,?_,?_,?_,?_,?_⟩
 ·exact ownsRow_kept (ownsRow_kept (ownsRow_kept h.hrow kA (by simp)) k5 (fun j hj=>hlt j (by simp [ownL,hj]))) ks (fun j hj=>hneC j (by simp [ownL,hj]))
 ·rw [List.length_append,List.length_singleton]
  exact ownsRow_kept hown ks (fun j hj q=>by
   have e1:gg=j:=(by simpa [Value.ownBlock] using hj)
   have e2:j=C:=(by simpa using q)
   exact hggC.2 (by rw [e1,e2]))
 ·have l1:=((h.lits.kept kA (by simp)).kept k5 (fun j hj q=>hlt j (by simp [q]) hj)).kept ks (fun j hj q=>hneC j (by simp [q]) hj)
  refine l1.snoc ?_ (by simp)
  have r1:=ownsRow_kept (ownsRow_kept (ownsRow_kept hrow kA (by simp)) k5 (fun j hj=>(htvlv j (by simp [ownL,hj])).1)) ks (fun j hj=>(htvlv j (by simp [ownL,hj])).2.1)
  exact ownE_mono r1 (by omega)
 ·intro j hj
  rw [e0,eg] at hj
  simp only [List.mem_append,List.mem_singleton] at hj
  rcases hj with (hj | hj) | hj | hj
  ·exact h.far j (by simp [hj])
  ·rw [hj];exact hggC
  ·exact h.far j (by simp [hj])
  ·have:=htvlv j hj;simp at this;omega
 ·intro j hj
  rw [eg] at hj
  have e:j=gg:=(by simpa using hj)
  rw [e0]
  refine ⟨fun q=>?_,fun q=>?_⟩
  ·rcases hgg with p | p
   ·exact (h.lone j (by rw [e];exact p)).1 q
   ·have:=(ownL_at h.hrow j q).2;omega
  ·rcases List.mem_append.1 q with q | q
   ·rcases hgg with p | p
    ·exact (h.lone j (by rw [e];exact p)).2 q
    ·have:=(h.lits.lt j q).2;omega
   ·have h1:=htv j q
    rcases hgg with p | p
    ·exact (htvlv j q).1 (by rw [e];exact p)
    ·omega
 ·have h1:ScopeF w4 w.heap.size S B sc (fun j=>j∉[w.heap.size,C]++(ownL hv++ownL lv++ownLs ls)++ownL tv∧j<w4.heap.size):=hs4.mono (fun j _ h2 h3=>⟨h3,h2⟩)
  have h2:=((h1.keeps kA (by simp)).keeps k5 (fun j hj q=>q.1 (by simp [hj]))).keeps ks (fun j hj q=>q.1 (by have e:j=C:=(by simpa using hj);rw [e];simp))
  refine h2.mono (fun j _ _ q hx=>?_)
  rw [e0,eg] at hx
  simp only [List.mem_append,List.mem_cons,List.not_mem_nil,or_false] at hx
  rcases hx with (hx | hx) | ((hx | hx) | hx | hx)
  ·exact q.1 (by simp [hx])
  ·exact q.1 (by simp [hx])
  ·exact q.1 (by simp [hx])
  ·rcases hgg with p | p
   ·exact q.1 (by rw [hx];simp [p])
   ·have:=q.2;omega
  ·exact q.1 (by simp [hx])
  ·exact q.1 (by simp [hx])
 ·exact ((h.keep.trans kA).trans_new k5 (fun j hj=>.inr (ownL_at h.lrow j hj).1)).trans_new ks (fun j hj=>.inr (by have e:j=C:=(by simpa using hj);omega))
end
section
open Go.RowKit
def headC (B:Nat) (tD mD sz tN mN co:Value):List Nat:=[B]++ownL tD++mapL mD++ownL sz++ownL tN++mapL mN++ownL co
theorem footC (B:Nat) (tD mD sz tN mN co cl ln:Value):footL B tD mD sz tN mN co cl ln=headC B tD mD sz tN mN co++(ownL cl++ownL ln)++[]:=by simp [footL,headC]
theorem MeanV.addClause {w w':World} {base B:Nat} {m:Mean} {tD mD sz tN mN co cl ln cl' ln' hv lv:Value} {cvs kvs ls:List Value} {T:List Nat} (h:MeanV w base B m tD mD sz tN mN co cl ln cvs kvs) {c:ClauseM} (k:Keeps T w w') (hT:∀ j∈T,j∈[B]++(ownL cl++ownL ln)∨w.heap.size≤j)
  (hc:CellsAt w' B #[tD,mD,sz,tN,mN,co,cl',ln']) (hz:w'.ownsRow base 154 3 cl' (m.clauses.length+1) (kvs++[.int .i64 (c.head.rel:Int),hv,lv])) (hl:w'.ownsRow base 3 1 ln' (m.clauses.length+1) (natsV (m.clauses.map (·.line))++[.int .i64 (c.line:Int)]))
  (h2:w'.ownsRow base 220 2 hv c.head.terms.length (termCs c.head.terms)) (h3:∀ j∈ownL hv,j∉footL B tD mD sz tN mN co cl' ln') (h4:w'.ownsRow base 279 3 lv c.lits.length ls) (h5:∀ j∈ownL lv,j∉footL B tD mD sz tN mN co cl' ln') (h6:LitMs w' base (footL B tD mD sz tN mN co cl' ln') c.lits ls)
  (hn:∀ j∈ownL cl'++ownL ln',j∈ownL cl++ownL ln∨w.heap.size≤j) (hd:(ownL cl'++ownL ln').Nodup):MeanAt w' base B { m with clauses:=m.clauses++[c] }:=by
 have hf:=h.foot
 rw [footC] at hf
 have hlt:=h.foot_lt
 rw [footC] at hlt
 have hAp:=mem_apart hf
 have hB:B∈headC B tD mD sz tN mN co:=by simp [headC]
 have hTA:∀ j∈headC B tD mD sz tN mN co,j≠B→j∉T:=fun j hj hjB hjT=>by
  rcases hT j hjT with h' | h'
  ·rcases List.mem_append.1 h' with h' | h'
   ·exact hjB (by simpa using h')
   ·exact (hAp.1 j h').1 hj
  ·have:=(hlt j (List.mem_append_left _ (List.mem_append_left _ hj))).2;omega
 have hBn:∀ j∈ownL tD++mapL mD++ownL sz++ownL tN++mapL mN++ownL co,j≠B:=fun j hj e=>by
  have h2:([B]++(ownL tD++mapL mD++ownL sz++ownL tN++mapL mN++ownL co)++(ownL cl++ownL ln)).Nodup:=by have:=h.foot;simpa [footL] using this
  exact ((mem_apart h2).1 j hj).1 (by simp [e])
 have nT:∀ j∈ownL tD++mapL mD++ownL sz++ownL tN++mapL mN++ownL co,j∉T:=fun j hj=>hTA j (by simp only [headC,List.append_assoc];exact List.mem_append_right _ (by simpa using hj)) (hBn j hj)
 have hfN:(footL B tD mD sz tN mN co cl' ln').Nodup:=by
  rw [footC]
  refine nodup_mid (n:=w.heap.size) hf (fun j hj=>?_) hd hn
  rcases List.mem_append.1 hj with h' | h'
  ·exact (hlt j (List.mem_append_left _ (List.mem_append_left _ h'))).2
  ·cases h'
 have hXT:∀ j∈T,j∈footL B tD mD sz tN mN co cl ln∨j<base∨w.heap.size≤j:=fun j hj=>by
  rcases hT j hj with h' | h'
  ·left
   rw [footC]
   rcases List.mem_append.1 h' with q | q
   ·have e:j=B:=(by simpa using q)
    exact List.mem_append_left _ (List.mem_append_left _ (by rw [e];exact hB))
   ·exact List.mem_append_left _ (List.mem_append_right _ q)
  ·exact .inr (.inr h')
 have hY:∀ j∈footL B tD mD sz tN mN co cl' ln'++footL B tD mD sz tN mN co cl ln,j∈footL B tD mD sz tN mN co cl ln∨w.heap.size≤j:=fun j hj=>by
  rcases List.mem_append.1 hj with hj | hj
  ·rw [footC] at hj ⊢
   rcases List.mem_append.1 hj with h' | h'
   ·rcases List.mem_append.1 h' with h'' | h''
    ·exact .inl (List.mem_append_left _ (List.mem_append_left _ h''))
    ·rcases hn j h'' with q | q
     ·exact .inl (List.mem_append_left _ (List.mem_append_right _ q))
     ·exact .inr q
   ·cases h'
  ·exact .inl hj
 have own:∀ {e:TypeId} {size n:Nat} {u:Value} {xs:List Value},w.ownsRow base e size u n xs→(∀ j∈ownL u,j∉T)→w'.ownsRow base e size u n xs:=fun h hr=>ownsRow_kept h k (fun j hj=>hr j (by simp [ownL,hj]))
 refine ⟨tD,mD,sz,tN,mN,co,cl',ln',cvs,kvs++[.int .i64 (c.head.rel:Int),hv,lv],hc,h.low,hfN,h.doms.kept k (fun j hj=>nT j (by simp [hj])) (fun j hj=>nT j (by simp [hj])),own h.sizes (fun j hj=>nT j (by simp [hj])),h.names.kept k (fun j hj=>nT j (by simp [hj])) (fun j hj=>nT j (by simp [hj])),own h.cols (fun j hj=>nT j (by simp [hj])),?_,by rw [List.length_append,List.length_singleton];exact hz,?_,by rw [List.length_append,List.length_singleton,List.map_append,natsV,List.map_append];exact hl⟩
 ·exact (((h.colsA.apart hY).keeps k (fun j hj=>by
   rcases hXT j hj with h' | h'
   ·exact .inl (List.mem_append_right _ h')
   ·exact .inr h'))).apart (fun j hj=>.inl (List.mem_append_left _ hj))
 ·refine ClauseMs.snoc ?_ h2 h3 h4 h5 h6
  exact (((h.clsA.apart hY).keeps k (fun j hj=>by
   rcases hXT j hj with h' | h'
   ·exact .inl (List.mem_append_right _ h')
   ·exact .inr h'))).apart (fun j hj=>.inl (List.mem_append_left _ hj))
theorem LitsAre.at {w:World} {base:Nat} {X:List Nat} {ls:List LitI} {cs:List Value} (h:LitsAre w base X ls cs) {i:Nat} {l:LitI} (hi:ls[i]?=some l):∃ v,(∀ q,q<5→cs[i * 5+q]?=(litCells l v)[q]?)∧w.ownsRow base 129 3 v l.atom.terms.length (tokCs l.atom.terms):=by
 induction ls generalizing cs i with
 | nil=>simp at hi
 | cons x ls ih=>
  obtain ⟨v,rest,h1,h2,h3,h4⟩:=h
  subst h1
  cases i with
  | zero=>
   simp at hi;subst hi
   exact ⟨v,fun q hq=>by rw [Nat.zero_mul,Nat.zero_add,List.getElem?_append_left (by simpa [litCells] using hq)],h2⟩
  | succ i=>
   obtain ⟨u,k1,k2⟩:=ih h4 (by simpa using hi)
   refine ⟨u,fun q hq=>?_,k2⟩
   rw [List.getElem?_append_right (by simp [litCells];omega)]
   have:(i+1) * 5+q - (litCells x v).length=i * 5+q:=by simp [litCells];omega
   rw [this]
   exact k1 q hq
theorem ownE_cells {w:World} {base:Nat} {e:TypeId} {size n c g:Nat} {xs:List Value} (h:w.ownsRow base e size (.slice (some ⟨g,0,none⟩) n c) n xs) {j:Nat} {v:Value} (hj:xs[j]?=some v):w.cell? ⟨g,j,none⟩=some v:=by
 obtain ⟨_,⟨h1,_⟩ | ⟨g',cap,cur,hv,hb,hg,hn,hc,hs,htk⟩⟩:=h
 ·cases h1
 ·cases hv
  rw [CellsAt.cell ⟨_,hg⟩]
  rw [←htk,List.getElem?_take] at hj
  split at hj
  ·rw [←hj];simp
  ·cases hj
end
end Go.Proofs.YtgjomknpjigkhaaGreatDoor
