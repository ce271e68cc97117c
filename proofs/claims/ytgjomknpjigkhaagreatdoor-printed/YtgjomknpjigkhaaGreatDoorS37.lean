import Derived.Test.YtgjomknpjigkhaaGreatDoorS31
namespace Go.Proofs.YtgjomknpjigkhaaGreatDoor
set_option maxRecDepth 100000
set_option maxHeartbeats 4000000
section
open Go.RowKit
theorem info154:(Tryz.prog.info? 154).map (fun i=>(i.zero,i.size,i.bytes))=some (some (.agg #[.int .i64 0,.slice none 0 0,.slice none 0 0]),3,56):=by kernel_rfl
theorem info279:(Tryz.prog.info? 279).map (fun i=>(i.zero,i.size,i.bytes))=some (some (.agg #[.int .i64 0,.slice none 0 0,.bool false]),3,40):=by kernel_rfl
theorem three_cells {W:World} {a b c:Value} {t:TypeId}:∀ (j:Nat) (x:Value),[a,b,c][j]?=some x→(W.alloc (.cells #[a,b,c] t)).cell? ((⟨W.heap.size,0,none⟩:Addr).add j)=some x:=by
 intro j x hx
 rw [Addr.add_lit,Nat.zero_add,(CellsAt.new W #[a,b,c] t).cell]
 match j with
 | 0=>simpa using hx
 | 1=>simpa using hx
 | 2=>simpa using hx
 | j+3=>simp at hx
theorem clause_many {w:World} {base B:Nat} {m:Mean} (h:MeanAt w base B m) (n:Tn) (ah al:Option Addr) (nh ch nl cc:Nat) (h52:m.clauses.length=52):Calls Tryz.prog 338 #[.agg #[.string (kindOf n.g),.string (txt n.g),.int .i64 n.line,.slice ah nh ch,.slice al nl cc],.pointer (some ⟨B,0,none⟩)] w fun e w'=>e=gaveUp 6 n.line∧Keeps [] w w':=by
 obtain ⟨tD,mD,sz,tN,mN,co,cl,ln,cvs,kvs,hV⟩:=h
 have kA:=Keeps.alloc [] w (.cells #[.string (kindOf n.g),.string (txt n.g),.int .i64 n.line,.slice ah nh ch,.slice al nl cc] 330)
 have hBl:=hV.cells.lt
 obtain ⟨aD,cD,hD⟩:=ownE_len hV.cls
 subst hD
 rw [h52] at hV
 have b6:=(hV.cells.keeps kA (by simp)).cell 6
 have hno:=hide (fun (w:World)=>refuse_yes (w:=w) n 6)
 clear hV
 go_enter Tryz.func338,Tryz.ntmps338
 go_wp2_with fail
 go_region_law (first
  | (refine step_dies rfl 335 _ _ rfl _ Tryz.func335 (by kernel_rfl) (by kernel_rfl) [tokV n,.bool true,.int .i64 6] rfl ?_ ?_
     ·refine (hno.out _).mono ?_
      rintro e w1 ⟨rfl,rfl⟩
      exact ⟨rfl,rfl,(kA.trans (Keeps.drew _ _)).trans (Keeps.alloc [] _ _)⟩
     intro hf))
 all_goals exact (hf.out).elim
def aheadQ (d:List (AtomM×Bool)):Except Flt (List (AtomM×Bool)×Scope)→Except Flt (List (AtomM×Bool)×Scope)
 | .ok (r,sc)=>.ok (d++r,sc)
 | .error f=>.error f
def toMean (m:Mean) (x:AtomM) (l:Nat):Except Flt (List (AtomM×Bool)×Scope)→Except Flt Mean
 | .ok (xs,_)=>.ok { m with clauses:=m.clauses++[⟨x,xs,l⟩] }
 | .error f=>.error f
theorem scope_new {w W:World} {B:Nat} (k:Keeps [] w W) (hA:w.heap.size<W.heap.size):ScopeX (W.alloc (.cells #[.pointer (some ⟨B,0,none⟩),.slice none 0 0,.map none,.slice none 0 0] 401)) w.heap.size W.heap.size B [] [w.heap.size]:=by
 refine ⟨.slice none 0 0,.map none,.slice none 0 0,⟨CellsAt.new W _ 401,k.size,by simp [ownL,mapL,Value.ownBlock],⟨World.ownsRow_nil ..,fun j hj=>by simp [Value.ownBlock] at hj,.inl ⟨rfl,rfl⟩⟩,World.ownsRow_nil ..⟩,fun j hj=>?_⟩
 have e:j=W.heap.size:=by simpa [ownL,mapL,Value.ownBlock] using hj
 simp;omega
theorem ClL.first {w w2:World} {S B z:Nat} {n:Tn} {tav lav:Value} {sc:Scope} {x:AtomM} {tv:Value} {T:List Nat} {W:World} (hA:CellsAt W w.heap.size #[.string (kindOf n.g),.string (txt n.g),.int .i64 n.line,tav,lav]) (k:Keeps [] w W) (k2:Keeps T W w2) (hT:∀ j∈T,w.heap.size≤j∧j∉[w.heap.size]) (hz:w.heap.size<z) (hrow:w2.ownsRow z 220 2 tv x.terms.length (termCs x.terms)) (hs:ScopeX w2 w.heap.size S B sc ([w.heap.size]++ownL tv)):ClL w (w2.alloc (.cells #[.int .i64 (x.rel:Int),tv,.slice none 0 0] 154)) S B w2.heap.size n tav lav sc x tv [] (.slice none 0 0) []:=by
 have hA2:=hA.keeps k2 (fun q=>(hT _ q).2 (by simp))
 have kC:=Keeps.alloc [] w2 (.cells #[.int .i64 (x.rel:Int),tv,.slice none 0 0] 154)
 have hlt:=hA2.lt
 have e0:ownL (.slice none 0 0)=[]:=rfl
 have htv:∀ j∈ownL tv,z≤j∧j<w2.heap.size:=fun j hj=>ownL_at hrow j hj
 refine ⟨hA2.keeps kC (by simp),CellsAt.new w2 _ 154,by omega,ownE_mono (ownsRow_kept hrow kC (by simp)) (by omega),World.ownsRow_nil ..,rfl,fun j hj=>?_,fun j hj=>by simp [e0] at hj,?_,(k.trans_new k2 (fun j hj=>.inr (hT j hj).1)).trans kC⟩
 ·have hj':j∈ownL tv:=by simpa [e0,ownLs] using hj
  have:=htv j hj';omega
 ·refine ((hs.mono (G:=fun j=>j∉[w.heap.size]++ownL tv∧j<w2.heap.size) (fun j _ h2 h3=>⟨h3,h2⟩)).keeps kC (by simp)).mono (fun j _ _ q hx=>?_)
  have hx':j=w.heap.size∨j=w2.heap.size∨j∈ownL tv:=by simpa [e0,ownLs] using hx
  rcases hx' with hx | hx | hx
  ·exact q.1 (by simp [hx])
  ·have:=q.2;omega
  ·exact q.1 (by simp [hx])
end
section
open Go.RowKit
structure Grown (wr wc:World) (mb B:Nat) (m:Mean) (tD mD sz tN mN co cl ln:Value) (kvs news:List Value) (gg cap:Nat):Prop where
 cells:CellsAt wc B #[tD,mD,sz,tN,mN,co,.slice (some ⟨gg,0,none⟩) (m.clauses.length+1) cap,ln]
 row:wc.ownsRow mb 154 3 (.slice (some ⟨gg,0,none⟩) (m.clauses.length+1) cap) (m.clauses.length+1) (kvs++news)
 keep:Keeps ([B]++ownL cl) wr wc
 at_:gg∈ownL cl∨wr.heap.size≤gg
theorem Grown.of {wr w5:World} {mb B:Nat} {m:Mean} {tD mD sz tN mN co cl ln:Value} {cvs kvs news:List Value} {gg cap:Nat} {W0:World} (kA:Keeps [] wr W0) (hV:MeanV wr mb B m tD mD sz tN mN co cl ln cvs kvs) (hown:w5.ownsRow mb 154 3 (.slice (some ⟨gg,0,none⟩) (m.clauses.length+1) cap) (m.clauses.length+1) (kvs++news)) (hgrow:W0.grownBy w5 cl.ownBlock) (hat:cl.ownBlock=some gg∨gg=wr.heap.size+1):Grown wr (w5.setCell ⟨B,6,none⟩ (.slice (some ⟨gg,0,none⟩) (m.clauses.length+1) cap)) mb B m tD mD sz tN mN co cl ln kvs news gg cap∧CellsAt w5 B #[tD,mD,sz,tN,mN,co,cl,ln]:=by
 have k5:=grownBy_keeps' hgrow (ownL cl) (fun r e=>.inl (by simp [ownL,e]))
 have ks:=Keeps.setCell w5 ⟨B,6,none⟩ (.slice (some ⟨gg,0,none⟩) (m.clauses.length+1) cap)
 have hBcl:B∉ownL cl:=fun hx=>by
  have hf:=hV.foot
  rw [footC] at hf
  exact ((mem_apart hf).1 B (by simp [hx])).1 (by simp [headC])
 have hB5:=(hV.cells.keeps kA (by simp)).keeps k5 hBcl
 have hBl:=hV.cells.lt
 have hgg:gg∈ownL cl∨gg=wr.heap.size+1:=by
  rcases hat with q | q
  ·left;simp [ownL,q]
  ·exact .inr q
 refine ⟨⟨hB5.setCell 6 _,ownsRow_kept hown ks (fun j hj q=>?_),((kA.mono (by simp)).trans (k5.mono (fun i hi=>by simp [hi]))).trans (ks.mono (by simp)),?_⟩,hB5⟩
 ·have e1:gg=j:=(by simpa [Value.ownBlock] using hj)
  have e2:j=B:=(by simpa using q)
  rcases hgg with p | p
  ·exact hBcl (by rw [←e2,←e1];exact p)
  ·omega
 ·rcases hgg with p | p
  ·exact .inl p
  ·right;omega
theorem clause_done {w wr wc w5:World} {S mb B C:Nat} {m:Mean} {tD mD sz tN mN co cl ln:Value} {cvs kvs:List Value} {n:Tn} {tav lav:Value} {sc:Scope} {hx:AtomM} {hv:Value} {xs:List (AtomM×Bool)} {lv:Value} {ls:List Value} {gg cap g2 cap2:Nat} {W0:World} (kA:Keeps [] wc W0) (hm:MeanV w mb B m tD mD sz tN mN co cl ln cvs kvs) (hmb:mb≤w.heap.size) (hC:ClL w wr S B C n tav lav sc hx hv xs lv ls) (hG:Grown wr wc mb B m tD mD sz tN mN co cl ln kvs [.int .i64 (hx.rel:Int),hv,lv] gg cap)
  (hown:w5.ownsRow mb 3 1 (.slice (some ⟨g2,0,none⟩) (m.clauses.length+1) cap2) (m.clauses.length+1) (natsV (m.clauses.map (·.line))++[.int .i64 (n.line:Int)])) (hgrow:W0.grownBy w5 ln.ownBlock) (hat:ln.ownBlock=some g2∨g2=wc.heap.size+1):CellsAt w5 B #[tD,mD,sz,tN,mN,co,.slice (some ⟨gg,0,none⟩) (m.clauses.length+1) cap,ln]∧MeanAt (w5.setCell ⟨B,7,none⟩ (.slice (some ⟨g2,0,none⟩) (m.clauses.length+1) cap2)) mb B { m with clauses:=m.clauses++[⟨hx,xs,n.line⟩] }∧∃ T,Keeps T w (w5.setCell ⟨B,7,none⟩ (.slice (some ⟨g2,0,none⟩) (m.clauses.length+1) cap2))∧∀ j∈T,mb≤j:=by
 have k5:=grownBy_keeps' hgrow (ownL ln) (fun r e=>.inl (by simp [ownL,e]))
 have ks:=Keeps.setCell w5 ⟨B,7,none⟩ (.slice (some ⟨g2,0,none⟩) (m.clauses.length+1) cap2)
 have hf:=hm.foot
 rw [footC] at hf
 have hAp:=mem_apart hf
 have hBh:B∈headC B tD mD sz tN mN co:=by simp [headC]
 have hBcl:B∉ownL cl:=fun q=>(hAp.1 B (by simp [q])).1 hBh
 have hBln:B∉ownL ln:=fun q=>(hAp.1 B (by simp [q])).1 hBh
 have hcl_ln:∀ j∈ownL cl,j∉ownL ln:=fun j hj q=>by
  have h2:(headC B tD mD sz tN mN co++ownL cl++ownL ln).Nodup:=by have:=hm.foot;rw [footC] at this;simpa using this
  exact ((mem_apart h2).1 j hj).2 q
 have hfl:=hm.foot_lt
 have hl1:∀ j∈ownL cl++ownL ln,mb≤j∧j<w.heap.size:=fun j hj=>hfl j (by rw [footC];exact List.mem_append_left _ (List.mem_append_right _ hj))
 have hl2:∀ j∈headC B tD mD sz tN mN co,mb≤j∧j<w.heap.size:=fun j hj=>hfl j (by rw [footC];exact List.mem_append_left _ (List.mem_append_left _ hj))
 have hsr:=hC.keep.size
 have hsc:=hG.keep.size
 have hggl:gg<wc.heap.size:=(ownE_lt hG.row gg rfl).2
 have hg2:g2∈ownL ln∨g2=wc.heap.size+1:=by
  rcases hat with q | q
  ·left;simp [ownL,q]
  ·exact .inr q
 have hB5:=(hG.cells.keeps kA (by simp)).keeps k5 hBln
 have hBw:B<w.heap.size:=hm.cells.lt
 have hggln:gg∉ownL ln:=fun q=>by
  rcases hG.at_ with p | p
  ·exact hcl_ln gg p q
  ·have:=(hl1 gg (by simp [q])).2;omega
 have hggB:gg≠B:=by
  rcases hG.at_ with p | p
  ·rintro rfl;exact hBcl p
  ·omega
 have hg2B:g2≠B:=by
  rcases hg2 with p | p
  ·rintro rfl;exact hBln p
  ·omega
 have hgg2:gg≠g2:=by
  rcases hg2 with p | p
  ·rintro rfl;exact hggln p
  ·omega
 have eg:ownL (.slice (some ⟨gg,0,none⟩) (m.clauses.length+1) cap)=[gg]:=rfl
 have e2:ownL (.slice (some ⟨g2,0,none⟩) (m.clauses.length+1) cap2)=[g2]:=rfl
 have kall:Keeps ([B]++(ownL cl++ownL ln)) wr (w5.setCell ⟨B,7,none⟩ (.slice (some ⟨g2,0,none⟩) (m.clauses.length+1) cap2)):=(((hG.keep.mono (fun i hi=>by simp at hi ⊢;rcases hi with q | q <;> simp [q])).trans (kA.mono (by simp))).trans (k5.mono (fun i hi=>by simp [hi]))).trans (ks.mono (by simp))
 have hVr:=hm.keeps hC.keep (by simp)
 have hClt:=hC.lt
 have hnT:∀ j,w.heap.size≤j→j∉[B]++(ownL cl++ownL ln):=fun j hj q=>by
  rcases List.mem_append.1 q with q | q
  ·have e:j=B:=(by simpa using q);omega
  ·have:=(hl1 j q).2;omega
 have hnF:∀ j,w.heap.size≤j→j<wr.heap.size→j∉footL B tD mD sz tN mN co (.slice (some ⟨gg,0,none⟩) (m.clauses.length+1) cap) (.slice (some ⟨g2,0,none⟩) (m.clauses.length+1) cap2):=fun j hj1 hj2 q=>by
  rw [footC,eg,e2] at q
  simp only [List.mem_append,List.mem_singleton,List.not_mem_nil,or_false] at q
  rcases q with q | q | q
  ·have:=(hl2 j q).2;omega
  ·rcases hG.at_ with p | p
   ·have:=(hl1 gg (by simp [p])).2;omega
   ·omega
  ·rcases hg2 with p | p
   ·have:=(hl1 g2 (by simp [p])).2;omega
   ·omega
 have hblk:∀ j∈ownL hv++ownL lv++ownLs ls,w.heap.size≤j∧j<wr.heap.size:=fun j hj=>hClt j (List.mem_append_right _ hj)
 refine ⟨hB5,hVr.addClause (c:=⟨hx,xs,n.line⟩) (hv:=hv) (lv:=lv) (ls:=ls) kall (fun j hj=>.inl hj) (hB5.setCell 7 _) ?_ ?_ ?_ (fun j hj=>hnF j (hblk j (by simp [hj])).1 (hblk j (by simp [hj])).2) ?_ (fun j hj=>hnF j (hblk j (by simp [hj])).1 (hblk j (by simp [hj])).2) ?_ (fun j hj=>?_) ?_,[B]++(ownL cl++ownL ln),(hC.keep.mono (by simp)).trans kall,fun j hj=>?_⟩
 ·exact ownsRow_kept (ownsRow_kept (ownsRow_kept hG.row kA (by simp)) k5 (fun j hj=>by have e:gg=j:=(by simpa [Value.ownBlock] using hj);rw [←e];exact hggln)) ks (fun j hj q=>by have e:gg=j:=(by simpa [Value.ownBlock] using hj);have e':j=B:=(by simpa using q);exact hggB (by rw [e,e']))
 ·exact ownsRow_kept hown ks (fun j hj q=>by have e:g2=j:=(by simpa [Value.ownBlock] using hj);have e':j=B:=(by simpa using q);exact hg2B (by rw [e,e']))
 ·exact ownE_mono (ownsRow_kept hC.hrow kall (fun j hj=>hnT j (hblk j (by simp [ownL,hj])).1)) hmb
 ·exact ownE_mono (ownsRow_kept hC.lrow kall (fun j hj=>hnT j (hblk j (by simp [ownL,hj])).1)) hmb
 ·exact ((hC.lits.kept kall (fun j hj q=>hnT j (hblk j (by simp [q])).1 hj)).mono hmb).far (fun j hj=>hnF j (hblk j (by simp [hj])).1 (hblk j (by simp [hj])).2)
 ·rw [eg,e2] at hj
  simp only [List.mem_append,List.mem_singleton] at hj
  rcases hj with q | q
  ·rcases hG.at_ with p | p
   ·left;rw [q];simp [p]
   ·right;omega
  ·rcases hg2 with p | p
   ·left;rw [q];simp [p]
   ·right;omega
 ·rw [eg,e2]
  simp [hgg2]
 ·rcases List.mem_append.1 hj with q | q
  ·have e:j=B:=(by simpa using q);rw [e];exact hm.low
  ·exact (hl1 j q).1
end
section
open Go.RowKit
set_option maxHeartbeats 16000000 in
theorem clause_walk {w:World} {mb ib B:Nat} {m:Mean} (hm0:MeanAt w mb B m) (hok:MeanOk m) (hmb:mb≤w.heap.size) (a:AtomI) (ls:List LitI) {ah al:Option Addr} {ch cl:Nat} {cs:List Value} {X:List Nat} (hhv:w.ownsRow ib 129 3 (.slice ah a.terms.length ch) a.terms.length (tokCs a.terms)) (hlv:w.ownsRow ib 353 5 (.slice al ls.length cl) ls.length cs) (hls:LitsAre w ib X ls cs) (htl:a.terms.length≤1000000) (htt:∀ t∈a.terms,isTermG t.g=true∧WfG t.g) (hll:ls.length≤1000000) (hlt:∀ l∈ls,l.atom.terms.length≤1000000∧∀ t∈l.atom.terms,isTermG t.g=true∧WfG t.g) (h52:¬ m.clauses.length=52):Calls Tryz.prog 338 #[.agg #[.string (kindOf a.name.g),.string (txt a.name.g),.int .i64 a.name.line,.slice ah a.terms.length ch,.slice al ls.length cl],.pointer (some ⟨B,0,none⟩)] w fun e w'=>AddTo mb B (addClause m a ls) e w'∧∃ T,Keeps T w w'∧∀ j∈T,mb≤j:=by
 obtain ⟨i1,hi1,hy0,hy1,hy2⟩:=info_parts info154
 obtain ⟨i2,hi2,hx0,hx1,hx2⟩:=info_parts info279
 obtain ⟨i3,hi3,hw0,hw1,hw2⟩:=info_parts info3E
 have hm1:=hm0
 obtain ⟨tD,mD,sz,tN,mN,co,clv,ln,cvs,kvs,hV⟩:=hm0
 have h52l:=hok.clauses
 obtain ⟨aD,cD,hD⟩:=ownE_len hV.cls
 subst hD
 obtain ⟨aL,cL,hL⟩:=ownE_len hV.lines
 subst hL
 have kA:=Keeps.alloc [] w (.cells #[.string (kindOf a.name.g),.string (txt a.name.g),.int .i64 a.name.line,.slice ah a.terms.length ch,.slice al ls.length cl] 330)
 have hA:=CellsAt.new w #[.string (kindOf a.name.g),.string (txt a.name.g),.int .i64 a.name.line,.slice ah a.terms.length ch,.slice al ls.length cl] 330
 have hBl:=hV.cells.lt
 have b6:=hV.cells.cell 6
 have h52I:(((m.clauses.length:Nat):Int) == 52)=false:=by rw [beq_eq_false_iff_ne];omega
 have hno:=hide (fun (w:World)=>refuse_no (w:=w) a.name 6)
 have Hat:=hide (fun (W:World) (k:Keeps [] w W) (S:Nat) (sc:Scope) (X:List Nat) (h:ScopeX W w.heap.size S B sc X) (hX:∀ j∈X,j<W.heap.size) (ho:Once sc) (h4:sc.length≤4)=>atomM_calls hm1 hok k (Nat.le_refl _) k.size h hX ho h4 a hhv htl htt)
 have Hlat:=hide (fun (W:World) (k:Keeps [] w W) (S:Nat) (sc:Scope) (X:List Nat) (h:ScopeX W w.heap.size S B sc X) (hX:∀ j∈X,j<W.heap.size) (ho:Once sc) (h4:sc.length≤4) (l:LitI) (av:Option Addr) (cc:Nat) (hcv:w.ownsRow ib 129 3 (.slice av l.atom.terms.length cc) l.atom.terms.length (tokCs l.atom.terms)) (hl:l∈ls)=>atomM_calls hm1 hok k (Nat.le_refl _) k.size h hX ho h4 l.atom hcv (hlt l hl).1 (hlt l hl).2)
 have HV:=hide hV
 have Hlv:=hide hlv
 have Hls:=hide hls
 have Hadd:Hid (addClause m a ls=match atomS m [] a with | .error f=>.error f | .ok (x,sc)=>toMean m x a.name.line (litsS m sc 0 ls)):=hide (by
  unfold addClause
  rw [if_neg h52]
  cases atomS m [] a with
  | error f=>rfl
  | ok q=>
   obtain ⟨x,sc⟩:=q
   simp only
   cases litsS m sc 0 ls with
   | error f=>rfl
   | ok q=>rfl)
 rw [Hadd.out]
 clear Hadd hV hm1 hlv hls hhv htt hlt h52
 cases hr:atomS m [] a with
 | error f=>
  go_enter Tryz.func338,Tryz.ntmps338
  go_upto_region 1 with fail
  go_cut [] (fun wc=>Keeps [] w wc∧CellsAt wc w.heap.size #[.string (kindOf a.name.g),.string (txt a.name.g),.int .i64 a.name.line,.slice ah a.terms.length ch,.slice al ls.length cl])
  case first=>
   go_region_law (first
    | (refine step_callA rfl 335 _ _ rfl _ Tryz.func335 (by kernel_rfl) (by kernel_rfl) [tokV a.name,.bool false,.int .i64 6] rfl ?_
       refine (hno.out _).mono ?_
       rintro e w1 ⟨rfl,rfl⟩))
   all_goals
    go_wp2_with fail
    go_meet
    exact ⟨(kA.trans (Keeps.drew _ _)).trans (Keeps.alloc [] _ _),(hA.keeps (Keeps.drew [] _) (by simp)).keeps (Keeps.alloc [] _ _) (by simp)⟩
  case rest=>
   obtain ⟨k1,hA1⟩:=hcut
   have kS:=Keeps.alloc [] wc (.cells #[.pointer (some ⟨B,0,none⟩),.slice none 0 0,.map none,.slice none 0 0] 401)
   have hA2:=hA1.keeps kS (by simp)
   have hcall:=hide (Hat.out _ (k1.trans kS) wc.heap.size [] [w.heap.size] (scope_new k1 hA1.lt) (fun j hj=>by have e:j=w.heap.size:=(by simpa using hj);have:=hA2.lt;omega) (by intro i j a b h;simp at h) (by simp))
   rw [hr] at hcall
   have c0:=hA2.cell 0
   have c1:=hA2.cell 1
   have c2:=hA2.cell 2
   have c3:=hA2.cell 3
   have kk:=k1.trans kS
   clear hA hA1 kS Hat Hlat
   go_wp2_with fail
   refine hcall.out.mono ?_
   rintro e w3 ⟨rfl,T,k3,hT⟩
   exact ⟨rfl,rfl,[],kk.trans_new k3 (fun j hj=>.inr (hT j hj).1),by simp⟩
 | ok q=>
  obtain ⟨x,sc1⟩:=q
  have hmt:=atomS_match (by intro i j a b h;simp at h) (by simp) hr
  have Hmt:=hide hmt
  simp only
  generalize hRR:litsS m sc1 0 ls=RR
  have HRR:=hide hRR
  clear hmt hRR
  go_enter Tryz.func338,Tryz.ntmps338
  go_upto_region 1 with fail
  go_cut [] (fun wc=>Keeps [] w wc∧CellsAt wc w.heap.size #[.string (kindOf a.name.g),.string (txt a.name.g),.int .i64 a.name.line,.slice ah a.terms.length ch,.slice al ls.length cl])
  case first=>
   go_region_law (first
    | (refine step_callA rfl 335 _ _ rfl _ Tryz.func335 (by kernel_rfl) (by kernel_rfl) [tokV a.name,.bool false,.int .i64 6] rfl ?_
       refine (hno.out _).mono ?_
       rintro e w1 ⟨rfl,rfl⟩))
   all_goals
    go_wp2_with fail
    go_meet
    exact ⟨(kA.trans (Keeps.drew _ _)).trans (Keeps.alloc [] _ _),(hA.keeps (Keeps.drew [] _) (by simp)).keeps (Keeps.alloc [] _ _) (by simp)⟩
  case rest=>
   obtain ⟨k1,hA1⟩:=hcut
   have kS:=Keeps.alloc [] wc (.cells #[.pointer (some ⟨B,0,none⟩),.slice none 0 0,.map none,.slice none 0 0] 401)
   have hA2:=hA1.keeps kS (by simp)
   have hcall:=hide (Hat.out _ (k1.trans kS) wc.heap.size [] [w.heap.size] (scope_new k1 hA1.lt) (fun j hj=>by have e:j=w.heap.size:=(by simpa using hj);have:=hA2.lt;omega) (by intro i j a b h;simp at h) (by simp))
   rw [hr] at hcall
   have c0:=hA2.cell 0
   have c1:=hA2.cell 1
   have c2:=hA2.cell 2
   have c3:=hA2.cell 3
   have kk:=k1.trans kS
   have hA1l:=hA1.lt
   clear hA hA1 kS Hat k1 hr kA
   go_wp2_with fail
   refine hcall.out.mono ?_
   rintro e w3 ⟨⟨tv,rfl,hrow,hsx⟩,T,k3,hT⟩
   obtain ⟨ta,tc,rfl⟩:=ownE_len hrow
   have hC0:=ClL.first (lav:=.slice al ls.length cl) hA2 kk k3 hT (by rw [sizeE_alloc];omega) hrow hsx
   have HC0:=hide hC0
   have a4:=hC0.arg.cell 4
   clear hC0 hA2 hcall k3 hT hrow hsx c0 c1 c2 c3 kk hno
   go_wp2_with fail
   generalize hCb:w3.heap.size=C at *
   go_loopw [27] (fun y wr=>∃ (i:Nat) (sci:Scope) (xs:List (AtomM×Bool)) (lv:Value) (lcs:List Value),y=.int .i64 i∧i=xs.length∧i≤ls.length∧i≤4∧ClL w wr wc.heap.size B C a.name (.slice ah a.terms.length ch) (.slice al ls.length cl) sci x (.slice ta x.terms.length tc) xs lv lcs∧Once sci∧sci.length≤4∧aheadQ xs (litsS m sci i (ls.drop i))=RR) (fun y _=>ls.length - (intOf y).toNat)
   case atStart=>exact ⟨0,sc1,[],.slice none 0 0,[],rfl,rfl,by omega,by omega,HC0.out,Hmt.out.2.2.1,Hmt.out.2.2.2,by rw [List.drop_zero,HRR.out];cases RR <;> rfl⟩
   case round=>
    clear HC0 HRR Hmt a4
    obtain ⟨i,sci,xs,lv,lcs,rfl,hix,hil,hi4,hC,hoi,h4i,hres⟩:=hrel
    obtain ⟨ly,lc,hy⟩:=ownE_len hC.lrow
    subst hy
    have hszr:=hC.keep.size
    have HC:=hide hC
    have Hix:=hide hix
    have hxl:xs.length≤4:=by omega
    clear hC hix
    by_cases hlt:i<ls.length
    ·obtain ⟨l,hl⟩:∃ l,ls[i]?=some l:=⟨_,List.getElem?_eq_getElem hlt⟩
     have hdl:ls.drop i=l :: ls.drop (i+1):=by
      rw [List.drop_eq_getElem_cons hlt]
      congr 1
      rw [List.getElem?_eq_getElem hlt] at hl
      exact Option.some.inj hl
     rw [hdl,litsS] at hres
     obtain ⟨v,hv1,hv2⟩:=Hls.out.at hl
     obtain ⟨va,vc,hvv⟩:=ownE_len hv2
     subst hvv
     have hcr:=ownsRow_kept Hlv.out HC.out.keep (by simp)
     obtain ⟨gt,hgt⟩:=ownE_pos2 hcr (by omega)
     subst hgt
     have c0:wr.cell? ⟨gt,i * 5,none⟩=some (.string (kindOf l.atom.name.g)):=ownE_cells hcr (by have:=hv1 0 (by omega);rw [Nat.add_zero] at this;rw [this];rfl)
     have c1:wr.cell? ⟨gt,i * 5+1,none⟩=some (.string (txt l.atom.name.g)):=ownE_cells hcr (by rw [hv1 1 (by omega)];rfl)
     have c2:wr.cell? ⟨gt,i * 5+2,none⟩=some (.int .i64 l.atom.name.line):=ownE_cells hcr (by rw [hv1 2 (by omega)];rfl)
     have c3:wr.cell? ⟨gt,i * 5+3,none⟩=some (.slice va l.atom.terms.length vc):=ownE_cells hcr (by rw [hv1 3 (by omega)];rfl)
     have c4:wr.cell? ⟨gt,i * 5+4,none⟩=some (.bool l.no):=ownE_cells hcr (by rw [hv1 4 (by omega)];rfl)
     have hgl:gt<wr.heap.size:=(ownE_lt hcr gt rfl).2
     have kK:=Keeps.alloc [] wr (.cells #[.string (kindOf l.atom.name.g),.string (txt l.atom.name.g),.int .i64 l.atom.name.line,.slice va l.atom.terms.length vc,.bool l.no] 353)
     have hK:=CellsAt.new wr #[.string (kindOf l.atom.name.g),.string (txt l.atom.name.g),.int .i64 l.atom.name.line,.slice va l.atom.terms.length vc,.bool l.no] 353
     have hiI:(i:Int)<ls.length:=by omega
     have Hv2:=hide hv2
     have hlm:=List.mem_of_getElem? hl
     clear hv1 hv2 hcr hdl hl
     by_cases h4:i=4
     ·rw [if_pos h4] at hres
      have Hres:=hide hres
      have q4:((i:Int) == 4)=true:=by rw [h4];rfl
      have hy:=hide (fun (w:World)=>refuse_yes (w:=w) l.atom.name 6)
      clear hres h4
      go_wp2_with fail
      refine (hy.out _).mono ?_
      rintro e w4 ⟨rfl,rfl⟩
      exact ⟨rfl,by rw [←Hres.out];rfl,[],(HC.out.keep.trans kK).trans (Keeps.alloc [] _ _),by simp⟩
     ·rw [if_neg h4] at hres
      have q4:((i:Int) == 4)=false:=by rw [beq_eq_false_iff_ne];omega
      have hn:=hide (fun (w:World)=>refuse_no (w:=w) l.atom.name 6)
      have hi3':i+1≤4:=by omega
      clear h4
      go_wp2_with fail
      refine (hn.out _).mono ?_
      rintro e w4 ⟨rfl,rfl⟩
      have kK2:=kK.trans (Keeps.alloc [] _ (.cells #[.string (kindOf l.atom.name.g),.string (txt l.atom.name.g),.int .i64 l.atom.name.line] 129))
      have hK2:=hK.keeps (Keeps.alloc [] _ (.cells #[.string (kindOf l.atom.name.g),.string (txt l.atom.name.g),.int .i64 l.atom.name.line] 129)) (by simp)
      generalize (wr.alloc (.cells #[.string (kindOf l.atom.name.g),.string (txt l.atom.name.g),.int .i64 l.atom.name.line,.slice va l.atom.terms.length vc,.bool l.no] 353)).alloc (.cells #[.string (kindOf l.atom.name.g),.string (txt l.atom.name.g),.int .i64 l.atom.name.line] 129)=W at *
      have kWd:=kK2.trans (Keeps.drew [] W)
      have hKd:=hK2.keeps (Keeps.drew [] W) (by simp)
      have hLr:wr.heap.size<W.heap.size:=hK2.lt
      have hLt:∀ j∈[w.heap.size,C]++(ownL (.slice ta x.terms.length tc)++ownL (.slice ly xs.length lc)++ownLs lcs)++[wr.heap.size],j<W.drew.heap.size:=fun j hj=>by
       rcases List.mem_append.1 hj with q | q
       ·exact Nat.lt_of_lt_of_le (HC.out.lt j q).2 kWd.size
       ·have e:j=wr.heap.size:=(by simpa using q);rw [e];exact hLr
      have hscW:ScopeX W.drew w.heap.size wc.heap.size B sci ([w.heap.size,C]++(ownL (.slice ta x.terms.length tc)++ownL (.slice ly xs.length lc)++ownLs lcs)++[wr.heap.size]):=(HC.out.sc.mono (fun j _ h2 h3 hx=>by
       rcases List.mem_append.1 hx with q | q
       ·exact h3 q
       ·have e:j=wr.heap.size:=(by simpa using q);omega)).keeps kWd (by simp)
      have hcall:=hide (Hlat.out W.drew (HC.out.keep.trans kWd) wc.heap.size sci _ hscW hLt hoi h4i l va vc Hv2.out hlm)
      have e0:=hK2.cell 0
      have e1:=hK2.cell 1
      have e2:=hK2.cell 2
      have e3:=hK2.cell 3
      have e4:=hK2.cell 4
      have d2:=(HC.out.cl.keeps kK2 (by simp)).cell 2
      have HLt:=hide hLt
      clear hLt hscW c0 c1 c2 c3 c4 kK hK hn
      cases hr3:atomS m sci l.atom with
      | error f=>
       rw [hr3] at hcall hres
       have Hres:=hide hres
       clear hres hr3
       have g2:=(HC.out.cl.keeps (kK2.trans (Keeps.alloc [] _ (.cells #[.int .i64 0,.slice none 0 0,.bool l.no] 279))) (by simp)).cell 2
       have f2:=(HC.out.cl.keeps (kK2.trans (Keeps.alloc [] _ (.cells #[.int .i64 0,.slice none 0 0,.bool l.no] 279))) (by simp)).frozen 2
       go_wp2_with fail
       go_region_law (first
        | (refine step_dies2 rfl 339 _ _ rfl _ Tryz.func339 (by kernel_rfl) (by kernel_rfl) [.pointer (some ⟨wc.heap.size,0,none⟩),.agg #[.string (kindOf l.atom.name.g),.string (txt l.atom.name.g),.int .i64 l.atom.name.line,.slice va l.atom.terms.length vc]] rfl (.agg #[.int .i64 0,.slice none 0 0]) ?_ ?_
           ·refine hcall.out.mono ?_
            rintro e w5 ⟨rfl,T4,k4,hT4⟩
            refine ⟨rfl,?_,[],(HC.out.keep.trans kWd).trans_new k4 (fun j hj=>.inr (hT4 j hj).1),by simp⟩
            rw [←Hres.out];rfl
           intro hf)
        | (refine step_void hf (.slice none 0 0) ?_))
       all_goals exact (hf.out).elim
      | ok q=>
       obtain ⟨y,sc'⟩:=q
       rw [hr3] at hcall hres
       have hmt:=atomS_match hoi h4i hr3
       have hah:aheadQ (xs++[(y,l.no)]) (litsS m sc' (i+1) (ls.drop (i+1)))=RR:=by
        rw [←hres]
        show _=aheadQ xs (match litsS m sc' (i+1) (ls.drop (i+1)) with
         | .error f=>Except.error f
         | .ok (xs,sc'')=>.ok ((y,l.no) :: xs,sc''))
        cases litsS m sc' (i+1) (ls.drop (i+1)) with
        | error f=>rfl
        | ok q=>simp [aheadQ]
       have Hah:=hide hah
       have Hmt:=hide hmt
       clear hres hah hmt hr3 hoi Hlat
       go_wp2_with fail
       go_region_law (first
        | (refine step_callA rfl 339 _ _ rfl _ Tryz.func339 (by kernel_rfl) (by kernel_rfl) [.pointer (some ⟨wc.heap.size,0,none⟩),.agg #[.string (kindOf l.atom.name.g),.string (txt l.atom.name.g),.int .i64 l.atom.name.line,.slice va l.atom.terms.length vc]] rfl ?_
           refine hcall.out.mono ?_
           rintro e w4 ⟨⟨tv,rfl,hrow4,hs4⟩,T4,k4,hT4⟩
           obtain ⟨tva,tvc,rfl⟩:=ownE_len hrow4
           have hk4:=(kWd.mono (fun i hi=>by cases hi)).trans k4
           have hC4:=HC.out.kept hk4 (fun j hj=>⟨(hT4 j hj).1,fun hx=>(hT4 j hj).2 (List.mem_append_left _ hx)⟩) (hs4.mono (fun j _ _ q hx=>q (List.mem_append_left _ (List.mem_append_left _ hx))))
           have hK4:=hKd.keeps k4 (fun q=>(hT4 _ q).2 (by simp))
           have hs4':ScopeX w4 w.heap.size wc.heap.size B sc' ([w.heap.size,C]++(ownL (.slice ta x.terms.length tc)++ownL (.slice ly xs.length lc)++ownLs lcs)++ownL (.slice tva y.terms.length tvc)):=hs4.mono (fun j _ _ q hx=>q (by
            rcases List.mem_append.1 hx with h | h
            ·exact List.mem_append_left _ (List.mem_append_left _ h)
            ·exact List.mem_append_right _ h))
           have row4A:=ownsRow_kept hC4.lrow (Keeps.alloc [] w4 (.cells #[.int .i64 (y.rel:Int),.slice tva y.terms.length tvc,.bool l.no] 279)) (by simp)
           have hD4A:=hC4.cl.keeps (Keeps.alloc [] w4 (.cells #[.int .i64 (y.rel:Int),.slice tva y.terms.length tvc,.bool l.no] 279)) (by simp)
           have hs4z:w.heap.size≤w4.heap.size:=Nat.le_trans hszr hk4.size
           have f4:=hK4.cell 4
           have f1:=hC4.cl.cell 2
           have f2:=hD4A.cell 2
           have HC4:=hide hC4
           have hzz:∀ j∈[w.heap.size,C]++(ownL (.slice ta x.terms.length tc)++ownL (.slice ly xs.length lc)++ownLs lcs),j<W.drew.heap.size:=fun j hj=>HLt.out j (List.mem_append_left _ hj)
           have Hzz:=hide hzz
           clear hC4 hK4 hzz)
        | (refine step_append_lies _ (by rfl) _ _ _ (by rfl) w.heap.size 279 i2 _ 3 40 Tryz.underlying152 hi2 hx0 hx1 hx2 rfl (by omega) (.slice ly xs.length lc) xs.length lcs (by rfl) row4A ⟨w4.heap.size,0,none⟩ 1 1 [.int .i64 (y.rel:Int),.slice tva y.terms.length tvc,.bool l.no] (by rfl) (by rfl) (three_cells (W:=w4)) (by simp [Value.oneCell']) (by omega) (by unfold maxLen;omega) (by omega) (by rw [sizeE_alloc];omega) (w4.heap.size+1) (by rw [sizeE_alloc]) ?_
           intro gg cap w5 hown5 hgrow hat hlt5
           have k6:=grownBy_keeps' hgrow (ownL (.slice ly xs.length lc)) (fun r e=>.inl (by simp [ownL,e]))
           have hD5:=hD4A.keeps k6 (fun q=>(HC.out.far C (by simp [q])).2 rfl)
           have d4g:=hD5.cell 2
           have f4g:=hD5.frozen 2
           have hNew:=hide (HC4.out.step Hzz.out hrow4 hs4' hgrow hown5 hat)
           clear hD5 k6))
       all_goals
        go_wp2_with fail
        go_roundw
        ·exact ⟨i+1,sc',xs++[(y,l.no)],_,_,by simp,by rw [List.length_append,List.length_singleton,←Hix.out],by omega,hi3',hNew.out,Hmt.out.2.2.1,Hmt.out.2.2.2,Hah.out⟩
        ·simp only [intOf];omega
    ·have hiI:¬ (i:Int)<ls.length:=by omega
     have hdz:ls.drop i=[]:=List.drop_eq_nil_of_le (by omega)
     rw [hdz,litsS] at hres
     simp only [aheadQ,List.append_nil] at hres
     have Hres:=hide hres
     have hVr:=HV.out.keeps HC.out.keep (by simp)
     have hBr:=hVr.cells.lt
     have b6r:=hVr.cells.cell 6
     have c0:=HC.out.cl.cell 0
     have c1:=HC.out.cl.cell 1
     have c2:=HC.out.cl.cell 2
     have kA4:=Keeps.alloc [] wr (.cells #[.int .i64 (x.rel:Int),.slice ta x.terms.length tc,.slice ly xs.length lc] 154)
     have b6a:=(hVr.cells.keeps kA4 (by simp)).cell 6
     have ownA:=ownsRow_kept hVr.cls kA4 (by simp)
     have HVr:=hide hVr
     clear hres hdz hVr Hlat b6
     go_upto_region 10 with fail
     go_cut [] (fun wd=>∃ gg cap,Grown wr wd mb B m tD mD sz tN mN co (.slice aD m.clauses.length cD) (.slice aL m.clauses.length cL) kvs [.int .i64 (x.rel:Int),.slice ta x.terms.length tc,.slice ly xs.length lc] gg cap)
     case first=>
      go_region_law (first
       | (refine step_append_lies _ (by rfl) _ _ _ (by rfl) mb 154 i1 _ 3 56 Tryz.underlying124 hi1 hy0 hy1 hy2 rfl (by omega) (.slice aD m.clauses.length cD) m.clauses.length kvs (by rfl) (ownsRow_kept ownA (Keeps.drew [] _) (by simp)) ⟨wr.heap.size,0,none⟩ 1 1 [.int .i64 (x.rel:Int),.slice ta x.terms.length tc,.slice ly xs.length lc] (by rfl) (by rfl) (three_cells (W:=wr)) (by simp [Value.oneCell']) (by omega) (by unfold maxLen;omega) (by omega) (by show mb≤(wr.alloc _).heap.size;rw [sizeE_alloc];omega) (wr.heap.size+1) (by show (wr.alloc _).heap.size=_;rw [sizeE_alloc]) ?_
          intro gg cap w5 hown5 hgrow hat hlt5
          obtain ⟨hG,hB5⟩:=Grown.of (kA4.trans (Keeps.drew [] _)) HVr.out hown5 hgrow hat
          have HG:=hide hG
          have d6:=hB5.cell 6
          have f6:=hB5.frozen 6
          clear hG hB5))
      all_goals
       go_wp2_with fail
       go_meet
       exact ⟨_,_,HG.out⟩
     case rest=>
      obtain ⟨gg,cap,hG⟩:=hcut
      have hf:=HV.out.foot
      rw [footC] at hf
      have hfl:=HV.out.foot_lt
      rw [footC] at hfl
      have hBn:∀ j∈ownL (.slice aD m.clauses.length cD),mb≤j∧j<w.heap.size:=fun j hj=>hfl j (by simp [hj])
      have hln:∀ j∈ownL (.slice aL m.clauses.length cL),j∉[B]++ownL (.slice aD m.clauses.length cD):=fun j hj q=>by
       rcases List.mem_append.1 q with q | q
       ·have e:j=B:=(by simpa using q)
        exact ((mem_apart hf).1 j (by simp [hj])).1 (by rw [e];simp [headC])
       ·have h2:(headC B tD mD sz tN mN co++ownL (.slice aD m.clauses.length cD)++ownL (.slice aL m.clauses.length cL)).Nodup:=by simpa using hf
        exact ((mem_apart h2).2 j hj).2 q
      have hAc:=HC.out.arg.keeps hG.keep (fun q=>by
       rcases List.mem_append.1 q with q | q
       ·have e:w.heap.size=B:=(by simpa using q);omega
       ·have:=(hBn _ q).2;omega)
      have hlr:=ownsRow_kept HVr.out.lines hG.keep (fun j hj=>hln j (by simp [ownL,hj]))
      have kA5:=Keeps.alloc [] wc (.cells #[.int .i64 (a.name.line:Int)] 3)
      have b7:=hG.cells.cell 7
      have b7a:=(hG.cells.keeps kA5 (by simp)).cell 7
      have a2:=hAc.cell 2
      have a2a:=(hAc.keeps kA5 (by simp)).cell 2
      have ownB:=ownsRow_kept hlr kA5 (by simp)
      have hsc:=hG.keep.size
      have hBc:=hG.cells.lt
      have HG:=hide hG
      clear hG hf hfl hBn hln hAc hlr b6r c0 c1 c2 kA4 b6a ownA
      go_wp2_with fail
      go_region_law (first
       | (refine step_append_lies _ (by rfl) _ _ _ (by rfl) mb 3 i3 _ 1 8 Tryz.underlying40 hi3 hw0 hw1 hw2 rfl (by omega) (.slice aL m.clauses.length cL) m.clauses.length (natsV (m.clauses.map (·.line))) (by rfl) (ownsRow_kept ownB (Keeps.drew [] _) (by simp)) ⟨wc.heap.size,0,none⟩ 1 1 [.int .i64 (a.name.line:Int)] (by rfl) (by rfl) (int_one (W:=wc)) (by simp [Value.oneCell']) (by omega) (by unfold maxLen;omega) (by omega) (by show mb≤(wc.alloc _).heap.size;rw [sizeE_alloc];omega) (wc.heap.size+1) (by show (wc.alloc _).heap.size=_;rw [sizeE_alloc]) ?_
          intro g2 cap2 w5 hown5 hgrow hat hlt5
          obtain ⟨hB5,hEnd,hKeep⟩:=clause_done (kA5.trans (Keeps.drew [] _)) HV.out hmb HC.out HG.out hown5 hgrow hat
          have HE:=hide hEnd
          have HK:=hide hKeep
          have d7:=hB5.cell 7
          have f7:=hB5.frozen 7
          clear hEnd hKeep hB5))
      all_goals
       go_wp2_with fail
       go_end0
       refine ⟨?_,HK.out⟩
       rw [←Hres.out]
       exact ⟨rfl,HE.out⟩
end
end Go.Proofs.YtgjomknpjigkhaaGreatDoor
