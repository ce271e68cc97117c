import Derived.Test.YtgjomknpjigkhaaGreatDoorU20
namespace Go.Proofs.YtgjomknpjigkhaaGreatDoor
open Go.Proofs.Tryz
set_option maxRecDepth 100000
set_option maxHeartbeats 4000000
section
open Go.RowKit
theorem atomM_calls {w0 w:World} {base S B mb ib:Nat} {sc:aQB} {m:Mean} {X:List Nat} (hm:jQB w0 mb B m) (hok:mQC m) (k0:aQA [] w0 w) (hb0:w0.heap.size≤base) (hbase:base≤w.heap.size) (h:jQF w base S B sc X) (hX:∀ j∈X,j<w.heap.size) (hon:Once sc) (h4:sc.length≤4) (a:dQE) {av:Option Addr} {cc:Nat} (hcv:w0.ownsRow ib 129 3 (.slice av a.terms.length cc) a.terms.length (hQD a.terms)) (htl:a.terms.length≤1000000) (htt:∀ t∈a.terms,zQA t.g=true∧WfG t.g):Calls prog 339 #[.pointer (some ⟨S,0,none⟩),.agg #[.string (eQA a.name.g),.string (txt a.name.g),.int .i64 a.name.line,.slice av a.terms.length cc]] w fun e w'=>AtomMTo w.heap.size base S B X (wQL m sc a) e w'∧∃ T,aQA T w w'∧∀ j∈T,base≤j∧j∉X:=by
 unfold wQL;cases hr:m.rel (txt a.name.g) with
 | none=>
  refine (atom_none (hm.keeps k0 (by simp)) h.to a.name av a.terms.length cc hr).mono ?_;rintro e w' ⟨rfl,k⟩;exact ⟨rfl,[],k,by simp⟩
 | some r=>
  obtain ⟨ds,hds⟩:=oQJ hr;have hc:m.cols r=ds:=by simp [Mean.cols,hds]
  simp only;rw [hc];by_cases hne:a.terms.length=ds.length
  ·rw [if_neg (by simp [hne])];have key:=atom_walk hm hok k0 hb0 hbase h hX hon h4 a hcv htl htt hr hds hne;cases ht:kQE m sc a.terms ds with
   | error f=>rw [ht] at key;exact key
   | ok q=>rw [ht] at key;exact key
  ·rw [if_pos hne];refine (atom_arity (hm.keeps k0 (by simp)) h.to a.name av a.terms.length cc hr hds hne).mono ?_;rintro e w' ⟨rfl,k⟩;exact ⟨rfl,[],k,by simp⟩
def hQE (vs:List Value):List Nat:=vs.flatMap ownL
section
variable {w w':World} {base base':Nat} {X Y T:List Nat}
theorem fQF.kept {ls:List (yQA×Bool)} {vs:List Value} (h:fQF w base X ls vs) (k:aQA T w w') (hT:∀ j∈T,j∉hQE vs):fQF w' base X ls vs:=by
 induction ls generalizing vs with
 | nil=>exact h
 | cons r rs ih=>
  obtain ⟨v,rest,h1,h2,h3,h4⟩:=h;subst h1;exact ⟨v,rest,rfl,bQA h2 k (fun j hj hx=>hT j hx (by simp [hQE,ownL,hj])),h3,ih h4 (fun j hj q=>hT j hj (by simp [hQE] at q ⊢;exact .inr (.inr (.inr q))))⟩
theorem fQF.lt {ls:List (yQA×Bool)} {vs:List Value} (h:fQF w base X ls vs):∀ j∈hQE vs,base≤j∧j<w.heap.size:=by
 induction ls generalizing vs with
 | nil=>have e:vs=[]:=h;subst e;intro j hj;simp [hQE] at hj
 | cons r rs ih=>
  obtain ⟨v,rest,h1,h2,h3,h4⟩:=h;subst h1;intro j hj;have hj':j∈ownL v∨j∈hQE rest:=by simpa [hQE,ownL,Value.ownBlock] using hj
  rcases hj' with q | q
  ·exact jQC h2 j q
  ·exact ih h4 j q
theorem fQF.far {ls:List (yQA×Bool)} {vs:List Value} (h:fQF w base X ls vs) (hY:∀ j∈hQE vs,j∉Y):fQF w base Y ls vs:=by
 induction ls generalizing vs with
 | nil=>exact h
 | cons r rs ih=>
  obtain ⟨v,rest,h1,h2,h3,h4⟩:=h;subst h1;exact ⟨v,rest,rfl,h2,fun j hj=>hY j (by simp [hQE,hj]),ih h4 (fun j hj=>hY j (by simp [hQE] at hj ⊢;exact .inr (.inr (.inr hj))))⟩
theorem fQF.mono {ls:List (yQA×Bool)} {vs:List Value} (h:fQF w base X ls vs) (hb:base'≤base):fQF w base' X ls vs:=by
 induction ls generalizing vs with
 | nil=>exact h
 | cons r rs ih=>
  obtain ⟨v,rest,h1,h2,h3,h4⟩:=h;exact ⟨v,rest,h1,sQA h2 hb,h3,ih h4⟩
end
theorem ownLs_lit (ls:List Value) (a b:Value) (tv:Value) (ha:ownL a=[]) (hb:ownL b=[]):hQE (ls++[a,tv,b])=hQE ls++ownL tv:=by simp [hQE,ha,hb]
structure ClL (w wr:World) (S B C:Nat) (n:Tn) (tav lav:Value) (sc:aQB) (hx:yQA) (hv:Value) (xs:List (yQA×Bool)) (lv:Value) (ls:List Value):Prop where
 arg:cQA wr w.heap.size #[.string (eQA n.g),.string (txt n.g),.int .i64 n.line,tav,lav]
 cl:cQA wr C #[.int .i64 (hx.rel:Int),hv,lv]
 low:w.heap.size+1≤C
 hrow:wr.ownsRow w.heap.size 220 2 hv hx.terms.length (pQD hx.terms)
 lrow:wr.ownsRow w.heap.size 279 3 lv xs.length ls
 lits:fQF wr w.heap.size [] xs ls
 far:∀ j∈ownL hv++ownL lv++hQE ls,j≠w.heap.size∧j≠C
 lone:∀ j∈ownL lv,j∉ownL hv∧j∉hQE ls
 sc:jQF wr w.heap.size S B sc ([w.heap.size,C]++(ownL hv++ownL lv++hQE ls))
 keep:aQA [] w wr
theorem ClL.lt {w wr:World} {S B C:Nat} {n:Tn} {tav lav:Value} {sc:aQB} {hx:yQA} {hv:Value} {xs:List (yQA×Bool)} {lv:Value} {ls:List Value} (h:ClL w wr S B C n tav lav sc hx hv xs lv ls):∀ j∈[w.heap.size,C]++(ownL hv++ownL lv++hQE ls),w.heap.size≤j∧j<wr.heap.size:=fun j hj=>by
 have h1:=h.arg.lt;have h2:=h.cl.lt;have h3:=h.low;simp only [List.mem_append,List.mem_cons,List.not_mem_nil,or_false] at hj;rcases hj with (hj | hj) | (hj | hj) | hj
 ·omega
 ·omega
 ·exact jQC h.hrow j hj
 ·exact jQC h.lrow j hj
 ·exact h.lits.lt j hj
theorem ClL.kept {w wr w4:World} {S B C:Nat} {n:Tn} {tav lav:Value} {sc sc':aQB} {hx:yQA} {hv:Value} {xs:List (yQA×Bool)} {lv:Value} {ls:List Value} {T4:List Nat} (h:ClL w wr S B C n tav lav sc hx hv xs lv ls) (k4:aQA T4 wr w4) (hT4:∀ j∈T4,w.heap.size≤j∧j∉[w.heap.size,C]++(ownL hv++ownL lv++hQE ls)) (hs4:jQF w4 w.heap.size S B sc' ([w.heap.size,C]++(ownL hv++ownL lv++hQE ls))):ClL w w4 S B C n tav lav sc' hx hv xs lv ls:=by
 have nT:∀ j∈[w.heap.size,C]++(ownL hv++ownL lv++hQE ls),j∉T4:=fun j hj q=>(hT4 j q).2 hj;exact ⟨h.arg.keeps k4 (nT _ (by simp)),h.cl.keeps k4 (nT _ (by simp)),h.low,bQA h.hrow k4 (fun j hj=>nT j (by simp [ownL,hj])),bQA h.lrow k4 (fun j hj=>nT j (by simp [ownL,hj])),h.lits.kept k4 (fun j hj q=>(hT4 j hj).2 (by simp [q])),h.far,h.lone,hs4,h.keep.trans_new k4 (fun j hj=>.inr (hT4 j hj).1)⟩
theorem ClL.step {w w4 w5:World} {S B C z:Nat} {n:Tn} {tav lav:Value} {sc:aQB} {hx:yQA} {hv:Value} {xs:List (yQA×Bool)} {lv:Value} {ls:List Value} {x:yQA} {no:Bool} {tv:Value} (h:ClL w w4 S B C n tav lav sc hx hv xs lv ls) (hz:∀ j∈[w.heap.size,C]++(ownL hv++ownL lv++hQE ls),j<z) (hrow:w4.ownsRow z 220 2 tv x.terms.length (pQD x.terms)) (hs4:jQF w4 w.heap.size S B sc ([w.heap.size,C]++(ownL hv++ownL lv++hQE ls)++ownL tv)) {o:Obj} (hgrow:(w4.alloc o).grownBy w5 lv.ownBlock) {gg cap:Nat} (hown:w5.ownsRow w.heap.size 279 3 (.slice (some ⟨gg,0,none⟩) (xs.length+1) cap) (xs.length+1) (ls++[.int .i64 (x.rel:Int),tv,.bool no])) (hat:lv.ownBlock=some gg∨gg=w4.heap.size+1):ClL w (w5.setCell ⟨C,2,none⟩ (.slice (some ⟨gg,0,none⟩) (xs.length+1) cap)) S B C n tav lav sc hx hv (xs++[(x,no)]) (.slice (some ⟨gg,0,none⟩) (xs.length+1) cap) (ls++[.int .i64 (x.rel:Int),tv,.bool no]):=by
 have hL:=h.lt;have k5:=grownBy_keeps' hgrow (ownL lv) (fun r e=>.inl (by simp [ownL,e]));have kA:=aQA.alloc [] w4 o;have ks:=aQA.setCell w5 ⟨C,2,none⟩ (.slice (some ⟨gg,0,none⟩) (xs.length+1) cap);have hA:=h.arg.lt;have hC:=h.cl.lt;have hlow:=h.low;have htv:∀ j∈ownL tv,z≤j∧j<w4.heap.size:=fun j hj=>jQC hrow j hj;have hzC:=hz C (by simp);have hzA:=hz w.heap.size (by simp);have hgg:gg∈ownL lv∨gg=w4.heap.size+1:=by
  rcases hat with q | q
  ·left;simp [ownL,q]
  ·exact .inr q
 have hggC:gg≠w.heap.size∧gg≠C:=by
  rcases hgg with q | q
  ·exact h.far gg (by simp [q])
  ·omega
 have e0:hQE (ls++[.int .i64 (x.rel:Int),tv,.bool no])=hQE ls++ownL tv:=ownLs_lit _ _ _ _ rfl rfl;have eg:ownL (.slice (some ⟨gg,0,none⟩) (xs.length+1) cap)=[gg]:=rfl;have hlvC:C∉ownL lv∧w.heap.size∉ownL lv:=⟨fun q=>(h.far C (by simp [q])).2 rfl,fun q=>(h.far _ (by simp [q])).1 rfl⟩;have hlt:∀ j∈ownL hv++hQE ls,j∉ownL lv:=fun j hj q=>by
  rcases List.mem_append.1 hj with p | p
  ·exact (h.lone j q).1 p
  ·exact (h.lone j q).2 p
 have hneC:∀ j∈ownL hv++hQE ls,j∉[C]:=fun j hj q=>by
  have e:j=C:=(by simpa using q);refine (h.far j ?_).2 e;rcases List.mem_append.1 hj with p | p <;> simp [p]
 have htvlv:∀ j∈ownL tv,j∉ownL lv∧j∉[C]∧j≠w.heap.size:=fun j hj=>by
  have h1:=htv j hj;refine ⟨fun q=>?_,by simp;omega,by omega⟩;have:=hz j (by simp [q]);omega
 refine ⟨((h.arg.keeps kA (by simp)).keeps k5 hlvC.2).keeps ks (by simp;omega),((h.cl.keeps kA (by simp)).keeps k5 hlvC.1).setCell 2 _,h.low,?_,?_,?_,?_,?_,?_,?_⟩
 ·exact bQA (bQA (bQA h.hrow kA (by simp)) k5 (fun j hj=>hlt j (by simp [ownL,hj]))) ks (fun j hj=>hneC j (by simp [ownL,hj]))
 ·rw [List.length_append,List.length_singleton]
  exact bQA hown ks (fun j hj q=>by
   have e1:gg=j:=(by simpa [Value.ownBlock] using hj);have e2:j=C:=(by simpa using q)
   exact hggC.2 (by rw [e1,e2]))
 ·have l1:=((h.lits.kept kA (by simp)).kept k5 (fun j hj q=>hlt j (by simp [q]) hj)).kept ks (fun j hj q=>hneC j (by simp [q]) hj);refine l1.snoc ?_ (by simp);have r1:=bQA (bQA (bQA hrow kA (by simp)) k5 (fun j hj=>(htvlv j (by simp [ownL,hj])).1)) ks (fun j hj=>(htvlv j (by simp [ownL,hj])).2.1);exact sQA r1 (by omega)
 ·intro j hj;rw [e0,eg] at hj;simp only [List.mem_append,List.mem_singleton] at hj;rcases hj with (hj | hj) | hj | hj
  ·exact h.far j (by simp [hj])
  ·rw [hj];exact hggC
  ·exact h.far j (by simp [hj])
  ·have:=htvlv j hj;simp at this;omega
 ·intro j hj;rw [eg] at hj;have e:j=gg:=(by simpa using hj);rw [e0];refine ⟨fun q=>?_,fun q=>?_⟩
  ·rcases hgg with p | p
   ·exact (h.lone j (by rw [e];exact p)).1 q
   ·have:=(jQC h.hrow j q).2;omega
  ·rcases List.mem_append.1 q with q | q
   ·rcases hgg with p | p
    ·exact (h.lone j (by rw [e];exact p)).2 q
    ·have:=(h.lits.lt j q).2;omega
   ·have h1:=htv j q;rcases hgg with p | p
    ·exact (htvlv j q).1 (by rw [e];exact p)
    ·omega
 ·have h1:kQG w4 w.heap.size S B sc (fun j=>j∉[w.heap.size,C]++(ownL hv++ownL lv++hQE ls)++ownL tv∧j<w4.heap.size):=hs4.mono (fun j _ h2 h3=>⟨h3,h2⟩);have h2:=((h1.keeps kA (by simp)).keeps k5 (fun j hj q=>q.1 (by simp [hj]))).keeps ks (fun j hj q=>q.1 (by have e:j=C:=(by simpa using hj);rw [e];simp));refine h2.mono (fun j _ _ q hx=>?_);rw [e0,eg] at hx;simp only [List.mem_append,List.mem_cons,List.not_mem_nil,or_false] at hx;rcases hx with (hx | hx) | ((hx | hx) | hx | hx)
  ·exact q.1 (by simp [hx])
  ·exact q.1 (by simp [hx])
  ·exact q.1 (by simp [hx])
  ·rcases hgg with p | p
   ·exact q.1 (by rw [hx];simp [p])
   ·have:=q.2;omega
  ·exact q.1 (by simp [hx])
  ·exact q.1 (by simp [hx])
 ·exact ((h.keep.trans kA).trans_new k5 (fun j hj=>.inr (jQC h.lrow j hj).1)).trans_new ks (fun j hj=>.inr (by have e:j=C:=(by simpa using hj);omega))
end
section
open Go.RowKit
def headC (B:Nat) (tD mD sz tN mN co:Value):List Nat:=[B]++ownL tD++mapL mD++ownL sz++ownL tN++mapL mN++ownL co
theorem footC (B:Nat) (tD mD sz tN mN co cl ln:Value):qQD B tD mD sz tN mN co cl ln=headC B tD mD sz tN mN co++(ownL cl++ownL ln)++[]:=by simp [qQD,headC]
theorem MeanV.addClause {w w':World} {base B:Nat} {m:Mean} {tD mD sz tN mN co cl ln cl' ln' hv lv:Value} {cvs kvs ls:List Value} {T:List Nat} (h:MeanV w base B m tD mD sz tN mN co cl ln cvs kvs) {c:iQA} (k:aQA T w w') (hT:∀ j∈T,j∈[B]++(ownL cl++ownL ln)∨w.heap.size≤j)
  (hc:cQA w' B #[tD,mD,sz,tN,mN,co,cl',ln']) (hz:w'.ownsRow base 154 3 cl' (m.clauses.length+1) (kvs++[.int .i64 (c.head.rel:Int),hv,lv])) (hl:w'.ownsRow base 3 1 ln' (m.clauses.length+1) (oQI (m.clauses.map (·.line))++[.int .i64 (c.line:Int)]))
  (h2:w'.ownsRow base 220 2 hv c.head.terms.length (pQD c.head.terms)) (h3:∀ j∈ownL hv,j∉qQD B tD mD sz tN mN co cl' ln') (h4:w'.ownsRow base 279 3 lv c.lits.length ls) (h5:∀ j∈ownL lv,j∉qQD B tD mD sz tN mN co cl' ln') (h6:fQF w' base (qQD B tD mD sz tN mN co cl' ln') c.lits ls)
  (hn:∀ j∈ownL cl'++ownL ln',j∈ownL cl++ownL ln∨w.heap.size≤j) (hd:(ownL cl'++ownL ln').Nodup):jQB w' base B { m with clauses:=m.clauses++[c] }:=by
 have hf:=h.foot;rw [footC] at hf;have hlt:=h.foot_lt;rw [footC] at hlt;have hAp:=rQB hf;have hB:B∈headC B tD mD sz tN mN co:=by simp [headC]
 have hTA:∀ j∈headC B tD mD sz tN mN co,j≠B→j∉T:=fun j hj hjB hjT=>by
  rcases hT j hjT with h' | h'
  ·rcases List.mem_append.1 h' with h' | h'
   ·exact hjB (by simpa using h')
   ·exact (hAp.1 j h').1 hj
  ·have:=(hlt j (List.mem_append_left _ (List.mem_append_left _ hj))).2;omega
 have hBn:∀ j∈ownL tD++mapL mD++ownL sz++ownL tN++mapL mN++ownL co,j≠B:=fun j hj e=>by
  have h2:([B]++(ownL tD++mapL mD++ownL sz++ownL tN++mapL mN++ownL co)++(ownL cl++ownL ln)).Nodup:=by have:=h.foot;simpa [qQD] using this
  exact ((rQB h2).1 j hj).1 (by simp [e])
 have nT:∀ j∈ownL tD++mapL mD++ownL sz++ownL tN++mapL mN++ownL co,j∉T:=fun j hj=>hTA j (by simp only [headC,List.append_assoc];exact List.mem_append_right _ (by simpa using hj)) (hBn j hj);have hfN:(qQD B tD mD sz tN mN co cl' ln').Nodup:=by
  rw [footC];refine nodup_mid (n:=w.heap.size) hf (fun j hj=>?_) hd hn;rcases List.mem_append.1 hj with h' | h'
  ·exact (hlt j (List.mem_append_left _ (List.mem_append_left _ h'))).2
  ·cases h'
 have hXT:∀ j∈T,j∈qQD B tD mD sz tN mN co cl ln∨j<base∨w.heap.size≤j:=fun j hj=>by
  rcases hT j hj with h' | h'
  ·left;rw [footC];rcases List.mem_append.1 h' with q | q
   ·have e:j=B:=(by simpa using q);exact List.mem_append_left _ (List.mem_append_left _ (by rw [e];exact hB))
   ·exact List.mem_append_left _ (List.mem_append_right _ q)
  ·exact .inr (.inr h')
 have hY:∀ j∈qQD B tD mD sz tN mN co cl' ln'++qQD B tD mD sz tN mN co cl ln,j∈qQD B tD mD sz tN mN co cl ln∨w.heap.size≤j:=fun j hj=>by
  rcases List.mem_append.1 hj with hj | hj
  ·rw [footC] at hj ⊢;rcases List.mem_append.1 hj with h' | h'
   ·rcases List.mem_append.1 h' with h'' | h''
    ·exact .inl (List.mem_append_left _ (List.mem_append_left _ h''))
    ·rcases hn j h'' with q | q
     ·exact .inl (List.mem_append_left _ (List.mem_append_right _ q))
     ·exact .inr q
   ·cases h'
  ·exact .inl hj
 have own:∀ {e:TypeId} {size n:Nat} {u:Value} {xs:List Value},w.ownsRow base e size u n xs→(∀ j∈ownL u,j∉T)→w'.ownsRow base e size u n xs:=fun h hr=>bQA h k (fun j hj=>hr j (by simp [ownL,hj]));refine ⟨tD,mD,sz,tN,mN,co,cl',ln',cvs,kvs++[.int .i64 (c.head.rel:Int),hv,lv],hc,h.low,hfN,h.doms.kept k (fun j hj=>nT j (by simp [hj])) (fun j hj=>nT j (by simp [hj])),own h.sizes (fun j hj=>nT j (by simp [hj])),h.names.kept k (fun j hj=>nT j (by simp [hj])) (fun j hj=>nT j (by simp [hj])),own h.cols (fun j hj=>nT j (by simp [hj])),?_,by rw [List.length_append,List.length_singleton];exact hz,?_,by rw [List.length_append,List.length_singleton,List.map_append,oQI,List.map_append];exact hl⟩
 ·exact (((h.colsA.apart hY).keeps k (fun j hj=>by
   rcases hXT j hj with h' | h'
   ·exact .inl (List.mem_append_right _ h')
   ·exact .inr h'))).apart (fun j hj=>.inl (List.mem_append_left _ hj))
 ·refine xQC.snoc ?_ h2 h3 h4 h5 h6
  exact (((h.clsA.apart hY).keeps k (fun j hj=>by
   rcases hXT j hj with h' | h'
   ·exact .inl (List.mem_append_right _ h')
   ·exact .inr h'))).apart (fun j hj=>.inl (List.mem_append_left _ hj))
theorem vQC.at {w:World} {base:Nat} {X:List Nat} {ls:List LitI} {cs:List Value} (h:vQC w base X ls cs) {i:Nat} {l:LitI} (hi:ls[i]?=some l):∃ v,(∀ q,q<5→cs[i * 5+q]?=(oQE l v)[q]?)∧w.ownsRow base 129 3 v l.atom.terms.length (hQD l.atom.terms):=by
 induction ls generalizing cs i with
 | nil=>simp at hi
 | cons x ls ih=>
  obtain ⟨v,rest,h1,h2,h3,h4⟩:=h;subst h1;cases i with
  | zero=>
   simp at hi;subst hi;exact ⟨v,fun q hq=>by rw [Nat.zero_mul,Nat.zero_add,List.getElem?_append_left (by simpa [oQE] using hq)],h2⟩
  | succ i=>
   obtain ⟨u,k1,k2⟩:=ih h4 (by simpa using hi);refine ⟨u,fun q hq=>?_,k2⟩;rw [List.getElem?_append_right (by simp [oQE];omega)];have:(i+1) * 5+q - (oQE x v).length=i * 5+q:=by simp [oQE];omega
   rw [this];exact k1 q hq
theorem mQA {w:World} {base:Nat} {e:TypeId} {size n c g:Nat} {xs:List Value} (h:w.ownsRow base e size (.slice (some ⟨g,0,none⟩) n c) n xs) {j:Nat} {v:Value} (hj:xs[j]?=some v):w.cell? ⟨g,j,none⟩=some v:=by
 obtain ⟨_,⟨h1,_⟩ | ⟨g',cap,cur,hv,hb,hg,hn,hc,hs,htk⟩⟩:=h
 ·cases h1
 ·cases hv;rw [cQA.cell ⟨_,hg⟩];rw [←htk,List.getElem?_take] at hj;split at hj
  ·rw [←hj];simp
  ·cases hj
end
section
open Go.RowKit
theorem info154:(prog.info? 154).map (fun i=>(i.zero,i.size,i.bytes))=some (some (.agg #[.int .i64 0,.slice none 0 0,.slice none 0 0]),3,56):=by kernel_rfl
theorem info279:(prog.info? 279).map (fun i=>(i.zero,i.size,i.bytes))=some (some (.agg #[.int .i64 0,.slice none 0 0,.bool false]),3,40):=by kernel_rfl
theorem three_cells {W:World} {a b c:Value} {t:TypeId}:∀ (j:Nat) (x:Value),[a,b,c][j]?=some x→(W.alloc (.cells #[a,b,c] t)).cell? ((⟨W.heap.size,0,none⟩:Addr).add j)=some x:=by
 intro j x hx;rw [Addr.add_lit,Nat.zero_add,(cQA.new W #[a,b,c] t).cell];match j with
 | 0=>simpa using hx
 | 1=>simpa using hx
 | 2=>simpa using hx
 | j+3=>simp at hx
theorem clause_many {w:World} {base B:Nat} {m:Mean} (h:jQB w base B m) (n:Tn) (ah al:Option Addr) (nh ch nl cc:Nat) (h52:m.clauses.length=52):Calls prog 338 #[.agg #[.string (eQA n.g),.string (txt n.g),.int .i64 n.line,.slice ah nh ch,.slice al nl cc],.pointer (some ⟨B,0,none⟩)] w fun e w'=>e=gQC 6 n.line∧aQA [] w w':=by
 obtain ⟨tD,mD,sz,tN,mN,co,cl,ln,cvs,kvs,hV⟩:=h;have kA:=aQA.alloc [] w (.cells #[.string (eQA n.g),.string (txt n.g),.int .i64 n.line,.slice ah nh ch,.slice al nl cc] 330);have hBl:=hV.cells.lt;obtain ⟨aD,cD,hD⟩:=fQA hV.cls;subst hD;rw [h52] at hV;have b6:=(hV.cells.keeps kA (by simp)).cell 6;have hno:=hide (fun (w:World)=>dQC (w:=w) n 6);clear hV;go_enter func338,ntmps338
 go_wp2_with fail
 go_region_law (first
  | (refine zQF rfl 335 _ _ rfl _ func335 (by kernel_rfl) (by kernel_rfl) [tokV n,.bool true,.int .i64 6] rfl ?_ ?_
     ·refine (hno.out _).mono ?_;rintro e w1 ⟨rfl,rfl⟩;exact ⟨rfl,rfl,(kA.trans (aQA.drew _ _)).trans (aQA.alloc [] _ _)⟩
     intro hf))
 all_goals exact (hf.out).elim
def aheadQ (d:List (yQA×Bool)):Except Flt (List (yQA×Bool)×aQB)→Except Flt (List (yQA×Bool)×aQB)
 | .ok (r,sc)=>.ok (d++r,sc)
 | .error f=>.error f
def toMean (m:Mean) (x:yQA) (l:Nat):Except Flt (List (yQA×Bool)×aQB)→Except Flt Mean
 | .ok (xs,_)=>.ok { m with clauses:=m.clauses++[⟨x,xs,l⟩] }
 | .error f=>.error f
theorem scope_new {w W:World} {B:Nat} (k:aQA [] w W) (hA:w.heap.size<W.heap.size):jQF (W.alloc (.cells #[.pointer (some ⟨B,0,none⟩),.slice none 0 0,.map none,.slice none 0 0] 401)) w.heap.size W.heap.size B [] [w.heap.size]:=by
 refine ⟨.slice none 0 0,.map none,.slice none 0 0,⟨cQA.new W _ 401,k.size,by simp [ownL,mapL,Value.ownBlock],⟨World.ownsRow_nil ..,fun j hj=>by simp [Value.ownBlock] at hj,.inl ⟨rfl,rfl⟩⟩,World.ownsRow_nil ..⟩,fun j hj=>?_⟩;have e:j=W.heap.size:=by simpa [ownL,mapL,Value.ownBlock] using hj
 simp;omega
theorem ClL.first {w w2:World} {S B z:Nat} {n:Tn} {tav lav:Value} {sc:aQB} {x:yQA} {tv:Value} {T:List Nat} {W:World} (hA:cQA W w.heap.size #[.string (eQA n.g),.string (txt n.g),.int .i64 n.line,tav,lav]) (k:aQA [] w W) (k2:aQA T W w2) (hT:∀ j∈T,w.heap.size≤j∧j∉[w.heap.size]) (hz:w.heap.size<z) (hrow:w2.ownsRow z 220 2 tv x.terms.length (pQD x.terms)) (hs:jQF w2 w.heap.size S B sc ([w.heap.size]++ownL tv)):ClL w (w2.alloc (.cells #[.int .i64 (x.rel:Int),tv,.slice none 0 0] 154)) S B w2.heap.size n tav lav sc x tv [] (.slice none 0 0) []:=by
 have hA2:=hA.keeps k2 (fun q=>(hT _ q).2 (by simp));have kC:=aQA.alloc [] w2 (.cells #[.int .i64 (x.rel:Int),tv,.slice none 0 0] 154);have hlt:=hA2.lt;have e0:ownL (.slice none 0 0)=[]:=rfl;have htv:∀ j∈ownL tv,z≤j∧j<w2.heap.size:=fun j hj=>jQC hrow j hj;refine ⟨hA2.keeps kC (by simp),cQA.new w2 _ 154,by omega,sQA (bQA hrow kC (by simp)) (by omega),World.ownsRow_nil ..,rfl,fun j hj=>?_,fun j hj=>by simp [e0] at hj,?_,(k.trans_new k2 (fun j hj=>.inr (hT j hj).1)).trans kC⟩
 ·have hj':j∈ownL tv:=by simpa [e0,hQE] using hj
  have:=htv j hj';omega
 ·refine ((hs.mono (G:=fun j=>j∉[w.heap.size]++ownL tv∧j<w2.heap.size) (fun j _ h2 h3=>⟨h3,h2⟩)).keeps kC (by simp)).mono (fun j _ _ q hx=>?_);have hx':j=w.heap.size∨j=w2.heap.size∨j∈ownL tv:=by simpa [e0,hQE] using hx
  rcases hx' with hx | hx | hx
  ·exact q.1 (by simp [hx])
  ·have:=q.2;omega
  ·exact q.1 (by simp [hx])
end
section
open Go.RowKit
structure Grown (wr wc:World) (mb B:Nat) (m:Mean) (tD mD sz tN mN co cl ln:Value) (kvs news:List Value) (gg cap:Nat):Prop where
 cells:cQA wc B #[tD,mD,sz,tN,mN,co,.slice (some ⟨gg,0,none⟩) (m.clauses.length+1) cap,ln]
 row:wc.ownsRow mb 154 3 (.slice (some ⟨gg,0,none⟩) (m.clauses.length+1) cap) (m.clauses.length+1) (kvs++news)
 keep:aQA ([B]++ownL cl) wr wc
 at_:gg∈ownL cl∨wr.heap.size≤gg
theorem Grown.of {wr w5:World} {mb B:Nat} {m:Mean} {tD mD sz tN mN co cl ln:Value} {cvs kvs news:List Value} {gg cap:Nat} {W0:World} (kA:aQA [] wr W0) (hV:MeanV wr mb B m tD mD sz tN mN co cl ln cvs kvs) (hown:w5.ownsRow mb 154 3 (.slice (some ⟨gg,0,none⟩) (m.clauses.length+1) cap) (m.clauses.length+1) (kvs++news)) (hgrow:W0.grownBy w5 cl.ownBlock) (hat:cl.ownBlock=some gg∨gg=wr.heap.size+1):Grown wr (w5.setCell ⟨B,6,none⟩ (.slice (some ⟨gg,0,none⟩) (m.clauses.length+1) cap)) mb B m tD mD sz tN mN co cl ln kvs news gg cap∧cQA w5 B #[tD,mD,sz,tN,mN,co,cl,ln]:=by
 have k5:=grownBy_keeps' hgrow (ownL cl) (fun r e=>.inl (by simp [ownL,e]));have ks:=aQA.setCell w5 ⟨B,6,none⟩ (.slice (some ⟨gg,0,none⟩) (m.clauses.length+1) cap);have hBcl:B∉ownL cl:=fun hx=>by
  have hf:=hV.foot;rw [footC] at hf;exact ((rQB hf).1 B (by simp [hx])).1 (by simp [headC])
 have hB5:=(hV.cells.keeps kA (by simp)).keeps k5 hBcl;have hBl:=hV.cells.lt;have hgg:gg∈ownL cl∨gg=wr.heap.size+1:=by
  rcases hat with q | q
  ·left;simp [ownL,q]
  ·exact .inr q
 refine ⟨⟨hB5.setCell 6 _,bQA hown ks (fun j hj q=>?_),((kA.mono (by simp)).trans (k5.mono (fun i hi=>by simp [hi]))).trans (ks.mono (by simp)),?_⟩,hB5⟩
 ·have e1:gg=j:=(by simpa [Value.ownBlock] using hj);have e2:j=B:=(by simpa using q);rcases hgg with p | p
  ·exact hBcl (by rw [←e2,←e1];exact p)
  ·omega
 ·rcases hgg with p | p
  ·exact .inl p
  ·right;omega
theorem clause_done {w wr wc w5:World} {S mb B C:Nat} {m:Mean} {tD mD sz tN mN co cl ln:Value} {cvs kvs:List Value} {n:Tn} {tav lav:Value} {sc:aQB} {hx:yQA} {hv:Value} {xs:List (yQA×Bool)} {lv:Value} {ls:List Value} {gg cap g2 cap2:Nat} {W0:World} (kA:aQA [] wc W0) (hm:MeanV w mb B m tD mD sz tN mN co cl ln cvs kvs) (hmb:mb≤w.heap.size) (hC:ClL w wr S B C n tav lav sc hx hv xs lv ls) (hG:Grown wr wc mb B m tD mD sz tN mN co cl ln kvs [.int .i64 (hx.rel:Int),hv,lv] gg cap)
  (hown:w5.ownsRow mb 3 1 (.slice (some ⟨g2,0,none⟩) (m.clauses.length+1) cap2) (m.clauses.length+1) (oQI (m.clauses.map (·.line))++[.int .i64 (n.line:Int)])) (hgrow:W0.grownBy w5 ln.ownBlock) (hat:ln.ownBlock=some g2∨g2=wc.heap.size+1):cQA w5 B #[tD,mD,sz,tN,mN,co,.slice (some ⟨gg,0,none⟩) (m.clauses.length+1) cap,ln]∧jQB (w5.setCell ⟨B,7,none⟩ (.slice (some ⟨g2,0,none⟩) (m.clauses.length+1) cap2)) mb B { m with clauses:=m.clauses++[⟨hx,xs,n.line⟩] }∧∃ T,aQA T w (w5.setCell ⟨B,7,none⟩ (.slice (some ⟨g2,0,none⟩) (m.clauses.length+1) cap2))∧∀ j∈T,mb≤j:=by
 have k5:=grownBy_keeps' hgrow (ownL ln) (fun r e=>.inl (by simp [ownL,e]));have ks:=aQA.setCell w5 ⟨B,7,none⟩ (.slice (some ⟨g2,0,none⟩) (m.clauses.length+1) cap2);have hf:=hm.foot;rw [footC] at hf;have hAp:=rQB hf;have hBh:B∈headC B tD mD sz tN mN co:=by simp [headC]
 have hBcl:B∉ownL cl:=fun q=>(hAp.1 B (by simp [q])).1 hBh;have hBln:B∉ownL ln:=fun q=>(hAp.1 B (by simp [q])).1 hBh;have hcl_ln:∀ j∈ownL cl,j∉ownL ln:=fun j hj q=>by
  have h2:(headC B tD mD sz tN mN co++ownL cl++ownL ln).Nodup:=by have:=hm.foot;rw [footC] at this;simpa using this
  exact ((rQB h2).1 j hj).2 q
 have hfl:=hm.foot_lt;have hl1:∀ j∈ownL cl++ownL ln,mb≤j∧j<w.heap.size:=fun j hj=>hfl j (by rw [footC];exact List.mem_append_left _ (List.mem_append_right _ hj));have hl2:∀ j∈headC B tD mD sz tN mN co,mb≤j∧j<w.heap.size:=fun j hj=>hfl j (by rw [footC];exact List.mem_append_left _ (List.mem_append_left _ hj));have hsr:=hC.keep.size;have hsc:=hG.keep.size;have hggl:gg<wc.heap.size:=(qQA hG.row gg rfl).2;have hg2:g2∈ownL ln∨g2=wc.heap.size+1:=by
  rcases hat with q | q
  ·left;simp [ownL,q]
  ·exact .inr q
 have hB5:=(hG.cells.keeps kA (by simp)).keeps k5 hBln;have hBw:B<w.heap.size:=hm.cells.lt;have hggln:gg∉ownL ln:=fun q=>by
  rcases hG.at_ with p | p
  ·exact hcl_ln gg p q
  ·have:=(hl1 gg (by simp [q])).2;omega
 have hggB:gg≠B:=by
  rcases hG.at_ with p | p
  ·rintro rfl;exact hBcl p
  ·omega
 have hg2B:g2≠B:=by
  rcases hg2 with p | p
  ·rintro rfl;exact hBln p
  ·omega
 have hgg2:gg≠g2:=by
  rcases hg2 with p | p
  ·rintro rfl;exact hggln p
  ·omega
 have eg:ownL (.slice (some ⟨gg,0,none⟩) (m.clauses.length+1) cap)=[gg]:=rfl;have e2:ownL (.slice (some ⟨g2,0,none⟩) (m.clauses.length+1) cap2)=[g2]:=rfl;have kall:aQA ([B]++(ownL cl++ownL ln)) wr (w5.setCell ⟨B,7,none⟩ (.slice (some ⟨g2,0,none⟩) (m.clauses.length+1) cap2)):=(((hG.keep.mono (fun i hi=>by simp at hi ⊢;rcases hi with q | q <;> simp [q])).trans (kA.mono (by simp))).trans (k5.mono (fun i hi=>by simp [hi]))).trans (ks.mono (by simp));have hVr:=hm.keeps hC.keep (by simp);have hClt:=hC.lt;have hnT:∀ j,w.heap.size≤j→j∉[B]++(ownL cl++ownL ln):=fun j hj q=>by
  rcases List.mem_append.1 q with q | q
  ·have e:j=B:=(by simpa using q);omega
  ·have:=(hl1 j q).2;omega
 have hnF:∀ j,w.heap.size≤j→j<wr.heap.size→j∉qQD B tD mD sz tN mN co (.slice (some ⟨gg,0,none⟩) (m.clauses.length+1) cap) (.slice (some ⟨g2,0,none⟩) (m.clauses.length+1) cap2):=fun j hj1 hj2 q=>by
  rw [footC,eg,e2] at q;simp only [List.mem_append,List.mem_singleton,List.not_mem_nil,or_false] at q;rcases q with q | q | q
  ·have:=(hl2 j q).2;omega
  ·rcases hG.at_ with p | p
   ·have:=(hl1 gg (by simp [p])).2;omega
   ·omega
  ·rcases hg2 with p | p
   ·have:=(hl1 g2 (by simp [p])).2;omega
   ·omega
 have hblk:∀ j∈ownL hv++ownL lv++hQE ls,w.heap.size≤j∧j<wr.heap.size:=fun j hj=>hClt j (List.mem_append_right _ hj);refine ⟨hB5,hVr.addClause (c:=⟨hx,xs,n.line⟩) (hv:=hv) (lv:=lv) (ls:=ls) kall (fun j hj=>.inl hj) (hB5.setCell 7 _) ?_ ?_ ?_ (fun j hj=>hnF j (hblk j (by simp [hj])).1 (hblk j (by simp [hj])).2) ?_ (fun j hj=>hnF j (hblk j (by simp [hj])).1 (hblk j (by simp [hj])).2) ?_ (fun j hj=>?_) ?_,[B]++(ownL cl++ownL ln),(hC.keep.mono (by simp)).trans kall,fun j hj=>?_⟩
 ·exact bQA (bQA (bQA hG.row kA (by simp)) k5 (fun j hj=>by have e:gg=j:=(by simpa [Value.ownBlock] using hj);rw [←e];exact hggln)) ks (fun j hj q=>by have e:gg=j:=(by simpa [Value.ownBlock] using hj);have e':j=B:=(by simpa using q);exact hggB (by rw [e,e']))
 ·exact bQA hown ks (fun j hj q=>by have e:g2=j:=(by simpa [Value.ownBlock] using hj);have e':j=B:=(by simpa using q);exact hg2B (by rw [e,e']))
 ·exact sQA (bQA hC.hrow kall (fun j hj=>hnT j (hblk j (by simp [ownL,hj])).1)) hmb
 ·exact sQA (bQA hC.lrow kall (fun j hj=>hnT j (hblk j (by simp [ownL,hj])).1)) hmb
 ·exact ((hC.lits.kept kall (fun j hj q=>hnT j (hblk j (by simp [q])).1 hj)).mono hmb).far (fun j hj=>hnF j (hblk j (by simp [hj])).1 (hblk j (by simp [hj])).2)
 ·rw [eg,e2] at hj;simp only [List.mem_append,List.mem_singleton] at hj;rcases hj with q | q
  ·rcases hG.at_ with p | p
   ·left;rw [q];simp [p]
   ·right;omega
  ·rcases hg2 with p | p
   ·left;rw [q];simp [p]
   ·right;omega
 ·rw [eg,e2];simp [hgg2]
 ·rcases List.mem_append.1 hj with q | q
  ·have e:j=B:=(by simpa using q);rw [e];exact hm.low
  ·exact (hl1 j q).1
end
end Go.Proofs.YtgjomknpjigkhaaGreatDoor
