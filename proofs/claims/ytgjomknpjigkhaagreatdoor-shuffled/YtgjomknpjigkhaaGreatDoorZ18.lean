import Derived.Test.YtgjomknpjigkhaaGreatDoorZ17
namespace Go.Proofs.YtgjomknpjigkhaaGreatDoor
open Go.Proofs.Tryz
set_option maxRecDepth 100000
set_option maxHeartbeats 4000000
section
open Go.RowKit
theorem lA.toks {w wr:World} {base S B D:Nat} {X:List Nat} {n:Tn} {tav:Value} {r:Nat} {sc:Ba} {xs:List BN} {tv:Value} (h:lA w wr base S B D X n tav r sc xs tv) {T:List Nat} {w':World} (k:AA T wr w') (hT:∀ j∈T,base≤j∧j∉X++[w.heap.size,w.heap.size+1,D]++Aa tv):AK w' D #[.int .i64 (r:Int),tv]∧w'.ownsRow w.heap.size 220 2 tv xs.length (EA xs):=
 ⟨h.at_.keeps k (fun q=>(hT D q).2 (by simp)),AH h.row k (fun j hj q=>(hT j q).2 (AT _ (by simp [Aa,hj])))⟩
theorem ZG {w0 w wr:World} {base:Nat} (k0:AA [] w0 w) (hb:w0.heap.size≤base) {T:List Nat} (k:AA T w wr) (hT:∀ j∈T,base≤j):AA [] w0 wr:=k0.trans_new k (fun j hj=>.inr (At hb (hT j hj)))
theorem YK {W:World} {a b:Value} {t:TypeId}:∀ (j:Nat) (x:Value),[a,b][j]?=some x→(W.alloc (.cells #[a,b] t)).cell? ((⟨W.heap.size,0,none⟩:Addr).add j)=some x:=by
 intro j x hx;rw [Addr.add_lit,Ag,(AK.new W #[a,b] t).cell];match j with
 | 0=>simpa using hx
 | 1=>simpa using hx
 | j+2=>simp at hx
def lV (r:Nat):Except I0 (List BN×Ba)→Except I0 (BW×Ba)
 | .ok (xs,sc)=>.ok (⟨r,xs⟩,sc)
 | .error f=>.error f
set_option maxHeartbeats 8000000 in
theorem Ze {w0 w:World} {base S B mb ib:Nat} {sc:Ba} {m:Mean} {X:List Nat} (hm:B5 w0 mb B m) (hok:DA m) (k0:AA [] w0 w) (hb0:w0.heap.size≤base) (hbase:base≤w.heap.size) (h:Eo w base S B sc X) (hX:∀ j∈X,j<w.heap.size) (hon:Iw sc) (h4:sc.length≤4) (a:Dx) {av:Option Addr} {cc:Nat} (hcv:w0.ownsRow ib 129 3 (.slice av a.terms.length cc) a.terms.length (De a.terms)) (htl:a.terms.length≤1000000) (htt:∀ t∈a.terms,Bv t.g=true∧Pp t.g) {r:Nat} (hr:m.rel (BB a.name.g)=some r) {s:ByteArray} {ds:List Nat} (hrs:m.rels[r]?=some (s,ds)) (hne:a.terms.length=ds.length):Calls prog 339 #[.pointer (some ⟨S,0,none⟩),.agg #[.string (AV a.name.g),.string (BB a.name.g),.int .i64 a.name.line,.slice av a.terms.length cc]] w fun e w'=>YC w.heap.size base S B X (lV r (D9 m sc a.terms ds)) e w'∧∃ T,AA T w w'∧∀ j∈T,base≤j∧j∉X:=by
 obtain ⟨i0,hi0,hz0,hz1,hz2⟩:=info_parts iW;obtain ⟨hSl,hS⟩:=LK h.to;have hBl:=JH hm;have hsz0:=k0.size;have hpl:=AD (fun (W:World) (k:AA [] w W)=>LU hm (BB a.name.g) (k0.trans k));rw [hr] at hpl;obtain ⟨gc,cc',av',cv',hgl,hdg,hcols⟩:=Ou hm hrs;have hrl':r<m.rels.length:=Ej hr;have hds:∀ d∈ds,d<m.doms.length:=(hok.cols _ (AE hrs)).2;have kA:=AA.alloc [] w (.cells #[.string (AV a.name.g),.string (BB a.name.g),.int .i64 a.name.line,.slice av a.terms.length cc] 327);have kB:=kA.trans (AA.alloc [] _ (.cells #[.int .i64 0,.slice none 0 0] 151));have hA:=(AK.new w #[.string (AV a.name.g),.string (BB a.name.g),.int .i64 a.name.line,.slice av a.terms.length cc] 327).keeps (AA.alloc [] _ (.cells #[.int .i64 0,.slice none 0 0] 151));have hR:=AK.new (w.alloc (.cells #[.string (AV a.name.g),.string (BB a.name.g),.int .i64 a.name.line,.slice av a.terms.length cc] 327)) #[.int .i64 0,.slice none 0 0] 151;rw [AX] at hR;have s0:=hS kB;have a0:=hA.cell 0;have a1:=hA.cell 1;have a2:=hA.cell 2;have hno:=AD (fun (w:World)=>DZ (w:=w) a.name 8);have hno2:=AD (fun (w:World)=>DZ (w:=w) a.name 10);have Hc:=AD (fun (W:World) (k:AA [] w0 W)=>(⟨(hcols k).1,(hcols k).2.1⟩:_∧_));have Hcd:=AD (fun (W:World) (k:AA [] w0 W)=>(hcols k).2.2);have HS:=AD (fun (W:World) (k:AA [] w W)=>hS k);have HA:=AD hA;have HRr:=AD hR;have hneI:((a.terms.length:Int) != (ds.length:Int))=false:=by rw [bne_eq_false_iff_eq];omega
 have hrI:(r:Int)<m.rels.length:=by omega
 have Htm:=AD (fun (W:World) (k:AA [] w0 W) (sc:Ba) (X:List Nat) (h:Eo W base S B sc X) (hX:∀ j∈X,j<W.heap.size) (hb:base≤W.heap.size) (t:Tn) (ht:Bv t.g=true∧Pp t.g) (d:Nat) (hd:d<m.doms.length) (hl:sc.length≤4)=>TP (hm.keeps k) h hX hb t ht.1 ht.2 d hd hl);have Hsc:=AD h;have Hcv:=AD hcv;have Hdg:=AD hdg;have Hds:=AD hds;have Htt:=AD htt;have HX:=AD hX;generalize hRR:D9 m sc a.terms ds=RR;have HRR:=AD hRR;have Hne:=AD hne;clear hm h hS hr hcols hA hR hdg hds htt hcv hX hRR hne;go_in
 go_wp2_with fail
 go_quiet (first | (go_at_call 77;exact (hpl.out _ (kB.trans (AA.drewN _ _ _))).mono fun _ _ h=>⟨h.1,_,h.2⟩))
 go_wp2_with fail
 refine (hno.out _).mono ?_;rintro e w3 ⟨rfl,rfl⟩;generalize hWW:((w.alloc (.cells #[.string (AV a.name.g),.string (BB a.name.g),.int .i64 a.name.line,.slice av a.terms.length cc] 327)).alloc (.cells #[.int .i64 0,.slice none 0 0] 151))=W1 at *;have k3:=(AA.drewN [] W1 nq).trans (AA.alloc [] _ (.cells #[.string (AV a.name.g),.string (BB a.name.g),.int .i64 a.name.line] 129));have kw3:=kB.trans k3;have hA3:=HA.out.keeps k3;have hR3:=HRr.out.keeps k3;obtain ⟨c5,cr⟩:=Hc.out _ (k0.trans kw3);have s3:=HS.out _ kw3;generalize (W1.drewN nq).alloc (.cells #[.string (AV a.name.g),.string (BB a.name.g),.int .i64 a.name.line] 129)=W3 at *;have b0:=hA3.cell 0;have b1:=hA3.cell 1;have b2:=hA3.cell 2;have b3:=hA3.cell 3;clear HA HRr k3 kB kA hWW s0 a0 a1 a2 hno hpl;go_wp2_with fail
 refine (hno2.out _).mono ?_;rintro e w4 ⟨rfl,rfl⟩;have kw4:=kw3.trans (AA.alloc [] W3 (.cells #[.string (AV a.name.g),.string (BB a.name.g),.int .i64 a.name.line] 129));have hA4:=hA3.keeps (AA.alloc [] W3 (.cells #[.string (AV a.name.g),.string (BB a.name.g),.int .i64 a.name.line] 129));have hR4:=hR3.keeps (AA.alloc [] W3 (.cells #[.string (AV a.name.g),.string (BB a.name.g),.int .i64 a.name.line] 129));generalize W3.alloc (.cells #[.string (AV a.name.g),.string (BB a.name.g),.int .i64 a.name.line] 129)=W4 at *;have kD:=AA.alloc [] W4 (.cells #[.int .i64 (r:Int),.slice none 0 0] 151);have hRl:=hR4.lt
 have hAt0:lA w (W4.alloc (.cells #[.int .i64 (r:Int),.slice none 0 0] 151)) base S B W4.heap.size X a.name (.slice av a.terms.length cc) r sc [] (.slice none 0 0):=
  ⟨hA4.keeps kD,hR4.keeps kD,AK.new W4 _ 151,World.ownsRow_nil ..,fun j hj=>by simp [Aa,Value.ownBlock] at hj,by
   refine ((Hsc.out.mono (G:=fun j=>j∉X∧j<w.heap.size) (fun j _ h2 h3=>⟨h3,h2⟩)).keeps (kw4.trans kD)).mono (fun j _ _ q hx=>?_);simp only [AC,AG,A7,or_false,Aa,Value.ownBlock,Option.toList_none] at hx;rcases hx with hx | hx | hx | hx
   ·exact q.1 hx
   ·omega
   ·omega
   ·omega,⟨[],kw4.trans kD,by simp⟩,by omega⟩
 have b3:=hA4.cell 3;have bD:=hAt0.at_.cell 0;have HAt0:=AD hAt0;have hA5:=hAt0.arg.cell 3;clear hAt0 hA3 hR3 kw3 hA4 hR4 c5 cr s3 b0 b1 b2 hno2 Hsc kD hneI kw4;go_wp2_with fail
 go_loopw [53] (fun x wr=>∃ (i:Nat) (sci:Ba) (xs:List BN) (tv:Value),x=.int .i64 i∧i=xs.length∧i≤a.terms.length∧lA w wr base S B W4.heap.size X a.name (.slice av a.terms.length cc) r sci xs tv∧Iw sci∧sci.length≤4∧PZ xs (D9 m sci (a.terms.drop i) (ds.drop i))=RR) (fun x _=>a.terms.length - (intOf x).toNat)
 case atStart=>exact ⟨0,sc,[],.slice none 0 0,rfl,rfl,by omega,HAt0.out,hon,h4,by rw [BV,BV,HRR.out];cases RR <;> rfl⟩
 case round=>
  clear b3 bD HAt0 hA5 HRR HS Hc;obtain ⟨i,sci,xs,tv,rfl,hix,hil,hAt,hoi,h4i,hres⟩:=hrel;obtain ⟨T0,kT0,hT0⟩:=hAt.keep;have kw:AA [] w0 wr:=ZG k0 hb0 kT0 (fun j hj=>(hT0 j hj).1);have hszr:=kT0.size;have hXr:=hAt.lt HX.out;obtain ⟨ay,cy,hy⟩:=Al hAt.row;subst hy;have HAt:=AD hAt;have Hix:=AD hix;have HXr:=AD hXr;have hxl:xs.length≤a.terms.length:=by omega
  clear hAt hix hXr;by_cases hlt:i<a.terms.length
  ·obtain ⟨t,ht⟩:∃ t,a.terms[i]?=some t:=⟨_,AB hlt⟩;have hld:i<ds.length:=by have:=Hne.out;omega
   obtain ⟨d,hd⟩:∃ d,ds[i]?=some d:=⟨_,AB hld⟩;have hdt:a.terms.drop i=t :: a.terms.drop (i+1):=by
    rw [BT hlt];congr 1
    rw [AB hlt] at ht;exact Ar ht
   have hdd:ds.drop i=d :: ds.drop (i+1):=by
    rw [BT hld];congr 1
    rw [AB hld] at hd;exact Ar hd
   rw [hdt,hdd,D9] at hres;have hcr:=AH Hcv.out kw;obtain ⟨gt,hgt⟩:=DK hcr (by omega);subst hgt;obtain ⟨tcs,ht1,ht2⟩:=Rd hcr;obtain ⟨t0,t1,t2⟩:=ht2 i t ht;rw [Ag] at t0 t1 t2;have c0:wr.cell? ⟨gt,i * 3,none⟩=some (.string (AV t.g)):=by rw [ht1.cell];exact t0
   have c1:wr.cell? ⟨gt,i * 3+1,none⟩=some (.string (BB t.g)):=by rw [ht1.cell];exact t1
   have c2:wr.cell? ⟨gt,i * 3+2,none⟩=some (.int .i64 t.line):=by rw [ht1.cell];exact t2
   obtain ⟨gd,hgd,hgdl⟩:=Hdg.out d (AE hd);subst hgd;have kK:=AA.alloc [] wr (.cells #[.string (AV t.g),.string (BB t.g),.int .i64 t.line] 129);have hK:=AK.new wr #[.string (AV t.g),.string (BB t.g),.int .i64 t.line] 129;have q0:=Hcd.out _ (kw.trans kK) i d gd hd rfl;have e0:=hK.cell 0;have e1:=hK.cell 1;have e2:=hK.cell 2;have d1:=(HAt.out.at_.keeps kK).cell 1;have kKd:=kK.trans (AA.drew [] _);have hcall:=AD (Htm.out _ (kw.trans kKd) sci _ (HAt.out.sc.keeps kKd) (fun j hj=>A4 (HXr.out j hj) kKd.size) (by have:=kKd.size;omega) t (Htt.out t (AE ht)) d (Hds.out d (AE hd)) h4i);have hiI:(i:Int)<a.terms.length:=(by omega);have hiD:(i:Int)<ds.length:=(by omega);have hgtl:=ht1.lt;clear ht1 ht2 t0 t1 t2 hcr hdt hdd Htm Hcd Hdg;cases hr3:Gu m sci t d with
   | error f=>
    rw [hr3] at hcall hres;have Hres:=AD hres;clear hres hr3 hd ht;go_wp2_with fail
    go_region_law (first
     | (refine OP rfl 340 _ _ rfl _ func340 (by kernel_rfl) (by kernel_rfl) [.pointer (some ⟨S,0,none⟩),Da t,.int .i64 (d:Int)] rfl (.agg #[.bool false,.int .i64 0]) ?_ ?_
        ·refine hcall.out.mono ?_;rintro e w1 ⟨rfl,T4,k4,hT4⟩;refine ⟨rfl,?_,T0++T4,(kT0.mono (fun i hi=>AN _ hi)).trans ((kKd.mono (by simp)).trans (k4.mono (fun i hi=>AT _ hi))),fun j hj=>?_⟩
         ·rw [←Hres.out];rfl
         ·rcases AC.1 hj with q | q
          ·exact hT0 j q
          ·exact ⟨(hT4 j q).1,fun hx=>(hT4 j q).2 (by simp [hx])⟩
        intro hf;have d2:=(HAt.out.at_.keeps (kK.trans (AA.alloc [] _ (.cells #[.bool false,.int .i64 0] 220)))).cell 1
        have f2:=(HAt.out.at_.keeps (kK.trans (AA.alloc [] _ (.cells #[.bool false,.int .i64 0] 220)))).frozen 1)
     | (refine QR hf (.slice none 0 0) ?_))
    all_goals exact (hf.out).elim
   | ok q=>
    obtain ⟨x,sc'⟩:=q;rw [hr3] at hcall hres;have hmt:=ND hoi h4i hr3;have hah:PZ (xs++[x]) (D9 m sc' (a.terms.drop (i+1)) (ds.drop (i+1)))=RR:=by
     rw [←hres]
     show _=PZ xs (match D9 m sc' (a.terms.drop (i+1)) (ds.drop (i+1)) with
      | .error f=>Except.error f
      | .ok (xs,sc'')=>.ok (x :: xs,sc''))
     cases D9 m sc' (a.terms.drop (i+1)) (ds.drop (i+1)) with
     | error f=>rfl
     | ok q=>simp [PZ]
    have Hah:=AD hah;have Hmt:=AD hmt;clear hres hah hmt hr3 hd ht hoi;go_wp2_with fail
    go_region_law (first
     | (refine A2 rfl 340 _ _ rfl _ func340 (by kernel_rfl) (by kernel_rfl) [.pointer (some ⟨S,0,none⟩),Da t,.int .i64 (d:Int)] rfl ?_
        refine hcall.out.mono ?_;rintro e w4 ⟨⟨rfl,hs4⟩,T4,k4,hT4⟩;have hk4:=(kKd.mono (fun i hi=>by cases hi)).trans k4;obtain ⟨hD4,row4⟩:=HAt.out.toks hk4 hT4;have hD4A:=hD4.keeps (AA.alloc [] w4 (.cells #[.bool x.isVar,.int .i64 x.num] 220));have row4A:=AH row4 (AA.alloc [] w4 (.cells #[.bool x.isVar,.int .i64 x.num] 220));have hs4z:w.heap.size≤w4.heap.size:=At hszr hk4.size;have f1:=hD4.cell 1
        have f2:=hD4A.cell 1)
     | (refine step_append_lies _ (by rfl) _ _ _ (by rfl) w.heap.size 220 i0 _ 2 16 underlying149 hi0 hz0 hz1 hz2 rfl (by omega) (.slice ay xs.length cy) xs.length (EA xs) (by rfl) row4A ⟨w4.heap.size,0,none⟩ 1 1 [.bool x.isVar,.int .i64 x.num] (by rfl) (by rfl) (YK (W:=w4)) (by simp [Value.oneCell']) (by omega) (by unfold maxLen;omega) (by omega) (by rw [AX];omega) (w4.heap.size+1) (by rw [AX]) ?_
        intro gg cap w5 hown5 hgrow hat hlt5;have k6:=grownBy_keeps' hgrow (Aa (.slice ay xs.length cy)) (fun r e=>.inl (by simp [Aa,e]));have hD5:=hD4A.keeps k6 (fun q=>HAt.out.rowA _ q (by simp));have d4g:=hD5.cell 1;have f4g:=hD5.frozen 1;have hNew:=AD (HAt.out.step HX.out hk4 hT4 hs4 hgrow hown5 hat)
        clear hD5 k6))
    all_goals
     go_wp2_with fail
     go_roundw
     ·exact ⟨i+1,sc',xs++[x],_,by simp,by rw [AJ,Ah,←Hix.out],by omega,hNew.out,Hmt.out.2.2.1,Hmt.out.2.2.2,Hah.out⟩
     ·simp only [intOf];omega
  ·have hiI:¬ (i:Int)<a.terms.length:=(by omega);have hdz:a.terms.drop i=[]:=Bq (by omega);rw [hdz,D9] at hres
   ·simp only [PZ,BR] at hres;have Hres:=AD hres;have d0:=HAt.out.at_.cell 0;have d1:=HAt.out.at_.cell 1;obtain ⟨c0,f0,c1,f1,hat,hk⟩:=Nt HAt.out.res (.int .i64 (r:Int)) (.slice ay xs.length cy);have Hat:=AD hat;have Hk:=AD hk;clear hres hat hk hdz;go_wp2_with fail
    refine bodyPost_ret (v:=.agg #[.int .i64 (r:Int),.slice ay xs.length cy]) (EO (p:=4) (ty:=151) (by kernel_rfl) _ Hat.out underlying151 gE rfl) rfl ⟨?_,T0,kT0.trans_new Hk.out (fun j hj=>.inr (by have e:j=w.heap.size+1:=(by simpa using hj);omega)),hT0⟩;rw [←Hres.out];refine ⟨_,rfl,AH HAt.out.row Hk.out (fun j hj q=>HAt.out.rowA j (by simp [Aa,hj]) (by have e:j=w.heap.size+1:=(by simpa using q);rw [e];simp)),(HAt.out.sc.keeps Hk.out (fun j hj q=>q (by have e:j=w.heap.size+1:=(by simpa using hj);rw [e];simp))).mono (fun j _ _ q hx=>q ?_)⟩;simp only [AC] at hx ⊢;rcases hx with hx | hx
    ·exact .inl (.inl hx)
    ·exact .inr hx
   ·intro t ts d ds h1;cases h1
end
end Go.Proofs.YtgjomknpjigkhaaGreatDoor
