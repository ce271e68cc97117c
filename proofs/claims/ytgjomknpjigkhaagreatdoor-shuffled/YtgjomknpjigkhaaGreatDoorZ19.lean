import Derived.Test.YtgjomknpjigkhaaGreatDoorZ18
namespace Go.Proofs.YtgjomknpjigkhaaGreatDoor
open Go.Proofs.Tryz
set_option maxRecDepth 100000
set_option maxHeartbeats 4000000
section
open Go.RowKit
theorem Nk {w0 w:World} {base S B mb ib:Nat} {sc:Ba} {m:Mean} {X:List Nat} (hm:B5 w0 mb B m) (hok:DA m) (k0:AA [] w0 w) (hb0:w0.heap.size≤base) (hbase:base≤w.heap.size) (h:Eo w base S B sc X) (hX:∀ j∈X,j<w.heap.size) (hon:Iw sc) (h4:sc.length≤4) (a:Dx) {av:Option Addr} {cc:Nat} (hcv:w0.ownsRow ib 129 3 (.slice av a.terms.length cc) a.terms.length (De a.terms)) (htl:a.terms.length≤1000000) (htt:∀ t∈a.terms,Bv t.g=true∧Pp t.g):Calls prog 339 #[.pointer (some ⟨S,0,none⟩),.agg #[.string (AV a.name.g),.string (BB a.name.g),.int .i64 a.name.line,.slice av a.terms.length cc]] w fun e w'=>YC w.heap.size base S B X (FR m sc a) e w'∧∃ T,AA T w w'∧∀ j∈T,base≤j∧j∉X:=by
 unfold FR;cases hr:m.rel (BB a.name.g) with
 | none=>
  refine (Zf (hm.keeps k0) h.to a.name av a.terms.length cc hr).mono ?_;rintro e w' ⟨rfl,k⟩;exact ⟨rfl,[],k,by simp⟩
 | some r=>
  obtain ⟨ds,hds⟩:=JB hr;have hc:m.cols r=ds:=by simp [Mean.cols,hds]
  simp only;rw [hc];by_cases hne:a.terms.length=ds.length
  ·rw [if_neg (by simp [hne])];have key:=Ze hm hok k0 hb0 hbase h hX hon h4 a hcv htl htt hr hds hne;cases ht:D9 m sc a.terms ds with
   | error f=>rw [ht] at key;exact key
   | ok q=>rw [ht] at key;exact key
  ·rw [if_pos hne];refine (Wy (hm.keeps k0) h.to a.name av a.terms.length cc hr hds hne).mono ?_;rintro e w' ⟨rfl,k⟩;exact ⟨rfl,[],k,by simp⟩
def D6 (vs:List Value):List Nat:=vs.flatMap Aa
section
variable {w w':World} {base base':Nat} {X Y T:List Nat}
theorem EU.kept {ls:List (BW×Bool)} {vs:List Value} (h:EU w base X ls vs) (k:AA T w w') (hT:∀ j∈T,j∉D6 vs):EU w' base X ls vs:=by
 induction ls generalizing vs with
 | nil=>exact h
 | cons r rs ih=>
  obtain ⟨v,rest,h1,h2,h3,h4⟩:=h;subst h1;exact ⟨v,rest,rfl,AH h2 k (fun j hj hx=>hT j hx (by simp [D6,Aa,hj])),h3,ih h4 (fun j hj q=>hT j hj (by simp [D6] at q ⊢;exact .inr (.inr (.inr q))))⟩
theorem EU.lt {ls:List (BW×Bool)} {vs:List Value} (h:EU w base X ls vs):∀ j∈D6 vs,base≤j∧j<w.heap.size:=by
 induction ls generalizing vs with
 | nil=>have e:vs=[]:=h;subst e;intro j hj;simp [D6] at hj
 | cons r rs ih=>
  obtain ⟨v,rest,h1,h2,h3,h4⟩:=h;subst h1;intro j hj;have hj':j∈Aa v∨j∈D6 rest:=by simpa [D6,Aa,Value.ownBlock] using hj
  rcases hj' with q | q
  ·exact DJ h2 j q
  ·exact ih h4 j q
theorem EU.far {ls:List (BW×Bool)} {vs:List Value} (h:EU w base X ls vs) (hY:∀ j∈D6 vs,j∉Y):EU w base Y ls vs:=by
 induction ls generalizing vs with
 | nil=>exact h
 | cons r rs ih=>
  obtain ⟨v,rest,h1,h2,h3,h4⟩:=h;subst h1;exact ⟨v,rest,rfl,h2,fun j hj=>hY j (by simp [D6,hj]),ih h4 (fun j hj=>hY j (by simp [D6] at hj ⊢;exact .inr (.inr (.inr hj))))⟩
theorem EU.mono {ls:List (BW×Bool)} {vs:List Value} (h:EU w base X ls vs) (hb:base'≤base):EU w base' X ls vs:=by
 induction ls generalizing vs with
 | nil=>exact h
 | cons r rs ih=>
  obtain ⟨v,rest,h1,h2,h3,h4⟩:=h;exact ⟨v,rest,h1,BZ h2 hb,h3,ih h4⟩
end
theorem Yu (ls:List Value) (a b:Value) (tv:Value) (ha:Aa a=[]) (hb:Aa b=[]):D6 (ls++[a,tv,b])=D6 ls++Aa tv:=by simp [D6,ha,hb]
structure Zn (w wr:World) (S B C:Nat) (n:Tn) (tav lav:Value) (sc:Ba) (hx:BW) (hv:Value) (xs:List (BW×Bool)) (lv:Value) (ls:List Value):Prop where
 arg:AK wr w.heap.size #[.string (AV n.g),.string (BB n.g),.int .i64 n.line,tav,lav]
 cl:AK wr C #[.int .i64 (hx.rel:Int),hv,lv]
 low:w.heap.size+1≤C
 hrow:wr.ownsRow w.heap.size 220 2 hv hx.terms.length (EA hx.terms)
 lrow:wr.ownsRow w.heap.size 279 3 lv xs.length ls
 lits:EU wr w.heap.size [] xs ls
 far:∀ j∈Aa hv++Aa lv++D6 ls,j≠w.heap.size∧j≠C
 lone:∀ j∈Aa lv,j∉Aa hv∧j∉D6 ls
 sc:Eo wr w.heap.size S B sc ([w.heap.size,C]++(Aa hv++Aa lv++D6 ls))
 keep:AA [] w wr
theorem Zn.lt {w wr:World} {S B C:Nat} {n:Tn} {tav lav:Value} {sc:Ba} {hx:BW} {hv:Value} {xs:List (BW×Bool)} {lv:Value} {ls:List Value} (h:Zn w wr S B C n tav lav sc hx hv xs lv ls):∀ j∈[w.heap.size,C]++(Aa hv++Aa lv++D6 ls),w.heap.size≤j∧j<wr.heap.size:=fun j hj=>by
 have h1:=h.arg.lt;have h2:=h.cl.lt;have h3:=h.low;simp only [AC,AG,A7,or_false] at hj;rcases hj with (hj | hj) | (hj | hj) | hj
 ·omega
 ·omega
 ·exact DJ h.hrow j hj
 ·exact DJ h.lrow j hj
 ·exact h.lits.lt j hj
theorem Zn.kept {w wr w4:World} {S B C:Nat} {n:Tn} {tav lav:Value} {sc sc':Ba} {hx:BW} {hv:Value} {xs:List (BW×Bool)} {lv:Value} {ls:List Value} {T4:List Nat} (h:Zn w wr S B C n tav lav sc hx hv xs lv ls) (k4:AA T4 wr w4) (hT4:∀ j∈T4,w.heap.size≤j∧j∉[w.heap.size,C]++(Aa hv++Aa lv++D6 ls)) (hs4:Eo w4 w.heap.size S B sc' ([w.heap.size,C]++(Aa hv++Aa lv++D6 ls))):Zn w w4 S B C n tav lav sc' hx hv xs lv ls:=by
 have nT:∀ j∈[w.heap.size,C]++(Aa hv++Aa lv++D6 ls),j∉T4:=fun j hj q=>(hT4 j q).2 hj;exact ⟨h.arg.keeps k4 (nT _ (by simp)),h.cl.keeps k4 (nT _ (by simp)),h.low,AH h.hrow k4 (fun j hj=>nT j (by simp [Aa,hj])),AH h.lrow k4 (fun j hj=>nT j (by simp [Aa,hj])),h.lits.kept k4 (fun j hj q=>(hT4 j hj).2 (by simp [q])),h.far,h.lone,hs4,h.keep.trans_new k4 (fun j hj=>.inr (hT4 j hj).1)⟩
theorem Zn.step {w w4 w5:World} {S B C z:Nat} {n:Tn} {tav lav:Value} {sc:Ba} {hx:BW} {hv:Value} {xs:List (BW×Bool)} {lv:Value} {ls:List Value} {x:BW} {no:Bool} {tv:Value} (h:Zn w w4 S B C n tav lav sc hx hv xs lv ls) (hz:∀ j∈[w.heap.size,C]++(Aa hv++Aa lv++D6 ls),j<z) (hrow:w4.ownsRow z 220 2 tv x.terms.length (EA x.terms)) (hs4:Eo w4 w.heap.size S B sc ([w.heap.size,C]++(Aa hv++Aa lv++D6 ls)++Aa tv)) {o:Obj} (hgrow:(w4.alloc o).grownBy w5 lv.ownBlock) {gg cap:Nat} (hown:w5.ownsRow w.heap.size 279 3 (.slice (some ⟨gg,0,none⟩) (xs.length+1) cap) (xs.length+1) (ls++[.int .i64 (x.rel:Int),tv,.bool no])) (hat:lv.ownBlock=some gg∨gg=w4.heap.size+1):Zn w (w5.setCell ⟨C,2,none⟩ (.slice (some ⟨gg,0,none⟩) (xs.length+1) cap)) S B C n tav lav sc hx hv (xs++[(x,no)]) (.slice (some ⟨gg,0,none⟩) (xs.length+1) cap) (ls++[.int .i64 (x.rel:Int),tv,.bool no]):=by
 have hL:=h.lt;have k5:=grownBy_keeps' hgrow (Aa lv) (fun r e=>.inl (by simp [Aa,e]));have kA:=AA.alloc [] w4 o;have ks:=AA.setCell w5 ⟨C,2,none⟩ (.slice (some ⟨gg,0,none⟩) (xs.length+1) cap);have hA:=h.arg.lt;have hC:=h.cl.lt;have hlow:=h.low;have htv:∀ j∈Aa tv,z≤j∧j<w4.heap.size:=fun j hj=>DJ hrow j hj;have hzC:=hz C (by simp);have hzA:=hz w.heap.size (by simp);have hgg:gg∈Aa lv∨gg=w4.heap.size+1:=by
  rcases hat with q | q
  ·left;simp [Aa,q]
  ·exact .inr q
 have hggC:gg≠w.heap.size∧gg≠C:=by
  rcases hgg with q | q
  ·exact h.far gg (by simp [q])
  ·omega
 have e0:D6 (ls++[.int .i64 (x.rel:Int),tv,.bool no])=D6 ls++Aa tv:=Yu _ _ _ _ rfl rfl;have eg:Aa (.slice (some ⟨gg,0,none⟩) (xs.length+1) cap)=[gg]:=rfl;have hlvC:C∉Aa lv∧w.heap.size∉Aa lv:=⟨fun q=>(h.far C (by simp [q])).2 rfl,fun q=>(h.far _ (by simp [q])).1 rfl⟩;have hlt:∀ j∈Aa hv++D6 ls,j∉Aa lv:=fun j hj q=>by
  rcases AC.1 hj with p | p
  ·exact (h.lone j q).1 p
  ·exact (h.lone j q).2 p
 have hneC:∀ j∈Aa hv++D6 ls,j∉[C]:=fun j hj q=>by
  have e:j=C:=(by simpa using q);refine (h.far j ?_).2 e;rcases AC.1 hj with p | p <;> simp [p]
 have htvlv:∀ j∈Aa tv,j∉Aa lv∧j∉[C]∧j≠w.heap.size:=fun j hj=>by
  have h1:=htv j hj;refine ⟨fun q=>?_,by simp;omega,by omega⟩;have:=hz j (by simp [q]);omega
 refine ⟨((h.arg.keeps kA).keeps k5 hlvC.2).keeps ks (by simp;omega),((h.cl.keeps kA).keeps k5 hlvC.1).setCell 2 _,h.low,?_,?_,?_,?_,?_,?_,?_⟩
 ·exact AH (AH (AH h.hrow kA) k5 (fun j hj=>hlt j (by simp [Aa,hj]))) ks (fun j hj=>hneC j (by simp [Aa,hj]))
 ·rw [AJ,Ah]
  exact AH hown ks (fun j hj q=>by
   have e1:gg=j:=(by simpa [Value.ownBlock] using hj);have e2:j=C:=(by simpa using q)
   exact hggC.2 (by rw [e1,e2]))
 ·have l1:=((h.lits.kept kA (by simp)).kept k5 (fun j hj q=>hlt j (by simp [q]) hj)).kept ks (fun j hj q=>hneC j (by simp [q]) hj);refine l1.snoc ?_ (by simp);have r1:=AH (AH (AH hrow kA) k5 (fun j hj=>(htvlv j (by simp [Aa,hj])).1)) ks (fun j hj=>(htvlv j (by simp [Aa,hj])).2.1);exact BZ r1 (by omega)
 ·intro j hj;rw [e0,eg] at hj;simp only [AC,AF] at hj;rcases hj with (hj | hj) | hj | hj
  ·exact h.far j (by simp [hj])
  ·rw [hj];exact hggC
  ·exact h.far j (by simp [hj])
  ·have:=htvlv j hj;simp at this;omega
 ·intro j hj;rw [eg] at hj;have e:j=gg:=(by simpa using hj);rw [e0];refine ⟨fun q=>?_,fun q=>?_⟩
  ·rcases hgg with p | p
   ·exact (h.lone j (by rw [e];exact p)).1 q
   ·have:=(DJ h.hrow j q).2;omega
  ·rcases AC.1 q with q | q
   ·rcases hgg with p | p
    ·exact (h.lone j (by rw [e];exact p)).2 q
    ·have:=(h.lits.lt j q).2;omega
   ·have h1:=htv j q;rcases hgg with p | p
    ·exact (htvlv j q).1 (by rw [e];exact p)
    ·omega
 ·have h1:FM w4 w.heap.size S B sc (fun j=>j∉[w.heap.size,C]++(Aa hv++Aa lv++D6 ls)++Aa tv∧j<w4.heap.size):=hs4.mono (fun j _ h2 h3=>⟨h3,h2⟩);have h2:=((h1.keeps kA).keeps k5 (fun j hj q=>q.1 (by simp [hj]))).keeps ks (fun j hj q=>q.1 (by have e:j=C:=(by simpa using hj);rw [e];simp));refine h2.mono (fun j _ _ q hx=>?_);rw [e0,eg] at hx;simp only [AC,AG,A7,or_false] at hx;rcases hx with (hx | hx) | ((hx | hx) | hx | hx)
  ·exact q.1 (by simp [hx])
  ·exact q.1 (by simp [hx])
  ·exact q.1 (by simp [hx])
  ·rcases hgg with p | p
   ·exact q.1 (by rw [hx];simp [p])
   ·have:=q.2;omega
  ·exact q.1 (by simp [hx])
  ·exact q.1 (by simp [hx])
 ·exact ((h.keep.trans kA).trans_new k5 (fun j hj=>.inr (DJ h.lrow j hj).1)).trans_new ks (fun j hj=>.inr (by have e:j=C:=(by simpa using hj);omega))
def Io (B:Nat) (tD mD sz tN mN co:Value):List Nat:=[B]++Aa tD++mapL mD++Aa sz++Aa tN++mapL mN++Aa co
theorem Iq (B:Nat) (tD mD sz tN mN co cl ln:Value):Do B tD mD sz tN mN co cl ln=Io B tD mD sz tN mN co++(Aa cl++Aa ln)++[]:=by simp [Do,Io]
theorem IG.addClause {w w':World} {base B:Nat} {m:Mean} {tD mD sz tN mN co cl ln cl' ln' hv lv:Value} {cvs kvs ls:List Value} {T:List Nat} (h:IG w base B m tD mD sz tN mN co cl ln cvs kvs) {c:Ac} (k:AA T w w') (hT:∀ j∈T,j∈[B]++(Aa cl++Aa ln)∨w.heap.size≤j)
  (hc:AK w' B #[tD,mD,sz,tN,mN,co,cl',ln']) (hz:w'.ownsRow base 154 3 cl' (m.clauses.length+1) (kvs++[.int .i64 (c.head.rel:Int),hv,lv])) (hl:w'.ownsRow base 3 1 ln' (m.clauses.length+1) (Ft (m.clauses.map (·.line))++[.int .i64 (c.line:Int)]))
  (h2:w'.ownsRow base 220 2 hv c.head.terms.length (EA c.head.terms)) (h3:∀ j∈Aa hv,j∉Do B tD mD sz tN mN co cl' ln') (h4:w'.ownsRow base 279 3 lv c.lits.length ls) (h5:∀ j∈Aa lv,j∉Do B tD mD sz tN mN co cl' ln') (h6:EU w' base (Do B tD mD sz tN mN co cl' ln') c.lits ls)
  (hn:∀ j∈Aa cl'++Aa ln',j∈Aa cl++Aa ln∨w.heap.size≤j) (hd:(Aa cl'++Aa ln').Nodup):B5 w' base B { m with clauses:=m.clauses++[c] }:=by
 have hf:=h.foot;rw [Iq] at hf;have hlt:=h.foot_lt;rw [Iq] at hlt;have hAp:=Cn hf;have hB:B∈Io B tD mD sz tN mN co:=by simp [Io]
 have hTA:∀ j∈Io B tD mD sz tN mN co,j≠B→j∉T:=fun j hj hjB hjT=>by
  rcases hT j hjT with h' | h'
  ·rcases AC.1 h' with h' | h'
   ·exact hjB (by simpa using h')
   ·exact (hAp.1 j h').1 hj
  ·have:=(hlt j (AN _ (AN _ hj))).2;omega
 have hBn:∀ j∈Aa tD++mapL mD++Aa sz++Aa tN++mapL mN++Aa co,j≠B:=fun j hj e=>by
  have h2:([B]++(Aa tD++mapL mD++Aa sz++Aa tN++mapL mN++Aa co)++(Aa cl++Aa ln)).Nodup:=by have:=h.foot;simpa [Do] using this
  exact ((Cn h2).1 j hj).1 (by simp [e])
 have nT:∀ j∈Aa tD++mapL mD++Aa sz++Aa tN++mapL mN++Aa co,j∉T:=fun j hj=>hTA j (by simp only [Io,Ab];exact AT _ (by simpa using hj)) (hBn j hj);have hfN:(Do B tD mD sz tN mN co cl' ln').Nodup:=by
  rw [Iq];refine Mk (n:=w.heap.size) hf (fun j hj=>?_) hd hn;rcases AC.1 hj with h' | h'
  ·exact (hlt j (AN _ (AN _ h'))).2
  ·cases h'
 have hXT:∀ j∈T,j∈Do B tD mD sz tN mN co cl ln∨j<base∨w.heap.size≤j:=fun j hj=>by
  rcases hT j hj with h' | h'
  ·left;rw [Iq];rcases AC.1 h' with q | q
   ·have e:j=B:=(by simpa using q);exact AN _ (AN _ (by rw [e];exact hB))
   ·exact AN _ (AT _ q)
  ·exact .inr (.inr h')
 have hY:∀ j∈Do B tD mD sz tN mN co cl' ln'++Do B tD mD sz tN mN co cl ln,j∈Do B tD mD sz tN mN co cl ln∨w.heap.size≤j:=fun j hj=>by
  rcases AC.1 hj with hj | hj
  ·rw [Iq] at hj ⊢;rcases AC.1 hj with h' | h'
   ·rcases AC.1 h' with h'' | h''
    ·exact .inl (AN _ (AN _ h''))
    ·rcases hn j h'' with q | q
     ·exact .inl (AN _ (AT _ q))
     ·exact .inr q
   ·cases h'
  ·exact .inl hj
 have own:∀ {e:TypeId} {size n:Nat} {u:Value} {xs:List Value},w.ownsRow base e size u n xs→(∀ j∈Aa u,j∉T)→w'.ownsRow base e size u n xs:=fun h hr=>AH h k (fun j hj=>hr j (by simp [Aa,hj]));refine ⟨tD,mD,sz,tN,mN,co,cl',ln',cvs,kvs++[.int .i64 (c.head.rel:Int),hv,lv],hc,h.low,hfN,h.doms.kept k (fun j hj=>nT j (by simp [hj])) (fun j hj=>nT j (by simp [hj])),own h.sizes (fun j hj=>nT j (by simp [hj])),h.names.kept k (fun j hj=>nT j (by simp [hj])) (fun j hj=>nT j (by simp [hj])),own h.cols (fun j hj=>nT j (by simp [hj])),?_,by rw [AJ,Ah];exact hz,?_,by rw [AJ,Ah,Am,Ft,Am];exact hl⟩
 ·exact (((h.colsA.apart hY).keeps k (fun j hj=>by
   rcases hXT j hj with h' | h'
   ·exact .inl (AT _ h')
   ·exact .inr h'))).apart (fun j hj=>.inl (AN _ hj))
 ·refine Du.snoc ?_ h2 h3 h4 h5 h6
  exact (((h.clsA.apart hY).keeps k (fun j hj=>by
   rcases hXT j hj with h' | h'
   ·exact .inl (AT _ h')
   ·exact .inr h'))).apart (fun j hj=>.inl (AN _ hj))
theorem Dk.at {w:World} {base:Nat} {X:List Nat} {ls:List Dn} {cs:List Value} (h:Dk w base X ls cs) {i:Nat} {l:Dn} (hi:ls[i]?=some l):∃ v,(∀ q,q<5→cs[i * 5+q]?=(El l v)[q]?)∧w.ownsRow base 129 3 v l.atom.terms.length (De l.atom.terms):=by
 induction ls generalizing cs i with
 | nil=>simp at hi
 | cons x ls ih=>
  obtain ⟨v,rest,h1,h2,h3,h4⟩:=h;subst h1;cases i with
  | zero=>
   simp at hi;subst hi;exact ⟨v,fun q hq=>by rw [D3,Ag,Az (by simpa [El] using hq)],h2⟩
  | succ i=>
   obtain ⟨u,k1,k2⟩:=ih h4 (by simpa using hi);refine ⟨u,fun q hq=>?_,k2⟩;rw [Av (by simp [El];omega)];have:(i+1) * 5+q - (El x v).length=i * 5+q:=by simp [El];omega
   rw [this];exact k1 q hq
theorem BL {w:World} {base:Nat} {e:TypeId} {size n c g:Nat} {xs:List Value} (h:w.ownsRow base e size (.slice (some ⟨g,0,none⟩) n c) n xs) {j:Nat} {v:Value} (hj:xs[j]?=some v):w.cell? ⟨g,j,none⟩=some v:=by
 obtain ⟨_,⟨h1,_⟩ | ⟨g',cap,cur,hv,hb,hg,hn,hc,hs,htk⟩⟩:=h
 ·cases h1
 ·cases hv;rw [AK.cell ⟨_,hg⟩];rw [←htk,List.getElem?_take] at hj;split at hj
  ·rw [←hj];simp
  ·cases hj
theorem Xp:(prog.info? 154).map (fun i=>(i.zero,i.size,i.bytes))=some (some (.agg #[.int .i64 0,.slice none 0 0,.slice none 0 0]),3,56):=by kernel_rfl
theorem iU:(prog.info? 279).map (fun i=>(i.zero,i.size,i.bytes))=some (some (.agg #[.int .i64 0,.slice none 0 0,.bool false]),3,40):=by kernel_rfl
theorem NA {W:World} {a b c:Value} {t:TypeId}:∀ (j:Nat) (x:Value),[a,b,c][j]?=some x→(W.alloc (.cells #[a,b,c] t)).cell? ((⟨W.heap.size,0,none⟩:Addr).add j)=some x:=by
 intro j x hx;rw [Addr.add_lit,Ag,(AK.new W #[a,b,c] t).cell];match j with
 | 0=>simpa using hx
 | 1=>simpa using hx
 | 2=>simpa using hx
 | j+3=>simp at hx
theorem Ux {w:World} {base B:Nat} {m:Mean} (h:B5 w base B m) (n:Tn) (ah al:Option Addr) (nh ch nl cc:Nat) (h52:m.clauses.length=52):Calls prog 338 #[.agg #[.string (AV n.g),.string (BB n.g),.int .i64 n.line,.slice ah nh ch,.slice al nl cc],.pointer (some ⟨B,0,none⟩)] w fun e w'=>e=Cx 6 n.line∧AA [] w w':=by
 obtain ⟨tD,mD,sz,tN,mN,co,cl,ln,cvs,kvs,hV⟩:=h;have kA:=AA.alloc [] w (.cells #[.string (AV n.g),.string (BB n.g),.int .i64 n.line,.slice ah nh ch,.slice al nl cc] 330);have hBl:=hV.cells.lt;obtain ⟨aD,cD,hD⟩:=Al hV.cls;subst hD;rw [h52] at hV;have b6:=(hV.cells.keeps kA).cell 6;have hno:=AD (fun (w:World)=>DT (w:=w) n 6);clear hV;go_in
 go_wp2_with fail
 go_region_law (first
  | (refine Fd rfl 335 _ _ rfl _ func335 (by kernel_rfl) (by kernel_rfl) [Da n,.bool true,.int .i64 6] rfl ?_ ?_
     ·refine (hno.out _).mono ?_;rintro e w1 ⟨rfl,rfl⟩;exact ⟨rfl,rfl,(kA.trans (AA.drew _ _)).trans (AA.alloc [] _ _)⟩
     intro hf))
 all_goals exact (hf.out).elim
def Pa (d:List (BW×Bool)):Except I0 (List (BW×Bool)×Ba)→Except I0 (List (BW×Bool)×Ba)
 | .ok (r,sc)=>.ok (d++r,sc)
 | .error f=>.error f
def lU (m:Mean) (x:BW) (l:Nat):Except I0 (List (BW×Bool)×Ba)→Except I0 Mean
 | .ok (xs,_)=>.ok { m with clauses:=m.clauses++[⟨x,xs,l⟩] }
 | .error f=>.error f
theorem QT {w W:World} {B:Nat} (k:AA [] w W) (hA:w.heap.size<W.heap.size):Eo (W.alloc (.cells #[.pointer (some ⟨B,0,none⟩),.slice none 0 0,.map none,.slice none 0 0] 401)) w.heap.size W.heap.size B [] [w.heap.size]:=by
 refine ⟨.slice none 0 0,.map none,.slice none 0 0,⟨AK.new W _ 401,k.size,by simp [Aa,mapL,Value.ownBlock],⟨World.ownsRow_nil ..,fun j hj=>by simp [Value.ownBlock] at hj,.inl ⟨rfl,rfl⟩⟩,World.ownsRow_nil ..⟩,fun j hj=>?_⟩;have e:j=W.heap.size:=by simpa [Aa,mapL,Value.ownBlock] using hj
 simp;omega
theorem Zn.first {w w2:World} {S B z:Nat} {n:Tn} {tav lav:Value} {sc:Ba} {x:BW} {tv:Value} {T:List Nat} {W:World} (hA:AK W w.heap.size #[.string (AV n.g),.string (BB n.g),.int .i64 n.line,tav,lav]) (k:AA [] w W) (k2:AA T W w2) (hT:∀ j∈T,w.heap.size≤j∧j∉[w.heap.size]) (hz:w.heap.size<z) (hrow:w2.ownsRow z 220 2 tv x.terms.length (EA x.terms)) (hs:Eo w2 w.heap.size S B sc ([w.heap.size]++Aa tv)):Zn w (w2.alloc (.cells #[.int .i64 (x.rel:Int),tv,.slice none 0 0] 154)) S B w2.heap.size n tav lav sc x tv [] (.slice none 0 0) []:=by
 have hA2:=hA.keeps k2 (fun q=>(hT _ q).2 (by simp));have kC:=AA.alloc [] w2 (.cells #[.int .i64 (x.rel:Int),tv,.slice none 0 0] 154);have hlt:=hA2.lt;have e0:Aa (.slice none 0 0)=[]:=rfl;have htv:∀ j∈Aa tv,z≤j∧j<w2.heap.size:=fun j hj=>DJ hrow j hj;refine ⟨hA2.keeps kC,AK.new w2 _ 154,by omega,BZ (AH hrow kC) (by omega),World.ownsRow_nil ..,rfl,fun j hj=>?_,fun j hj=>by simp [e0] at hj,?_,(k.trans_new k2 (fun j hj=>.inr (hT j hj).1)).trans kC⟩
 ·have hj':j∈Aa tv:=by simpa [e0,D6] using hj
  have:=htv j hj';omega
 ·refine ((hs.mono (G:=fun j=>j∉[w.heap.size]++Aa tv∧j<w2.heap.size) (fun j _ h2 h3=>⟨h3,h2⟩)).keeps kC).mono (fun j _ _ q hx=>?_);have hx':j=w.heap.size∨j=w2.heap.size∨j∈Aa tv:=by simpa [e0,D6] using hx
  rcases hx' with hx | hx | hx
  ·exact q.1 (by simp [hx])
  ·have:=q.2;omega
  ·exact q.1 (by simp [hx])
structure VJ (wr wc:World) (mb B:Nat) (m:Mean) (tD mD sz tN mN co cl ln:Value) (kvs news:List Value) (gg cap:Nat):Prop where
 cells:AK wc B #[tD,mD,sz,tN,mN,co,.slice (some ⟨gg,0,none⟩) (m.clauses.length+1) cap,ln]
 row:wc.ownsRow mb 154 3 (.slice (some ⟨gg,0,none⟩) (m.clauses.length+1) cap) (m.clauses.length+1) (kvs++news)
 keep:AA ([B]++Aa cl) wr wc
 at_:gg∈Aa cl∨wr.heap.size≤gg
theorem VJ.of {wr w5:World} {mb B:Nat} {m:Mean} {tD mD sz tN mN co cl ln:Value} {cvs kvs news:List Value} {gg cap:Nat} {W0:World} (kA:AA [] wr W0) (hV:IG wr mb B m tD mD sz tN mN co cl ln cvs kvs) (hown:w5.ownsRow mb 154 3 (.slice (some ⟨gg,0,none⟩) (m.clauses.length+1) cap) (m.clauses.length+1) (kvs++news)) (hgrow:W0.grownBy w5 cl.ownBlock) (hat:cl.ownBlock=some gg∨gg=wr.heap.size+1):VJ wr (w5.setCell ⟨B,6,none⟩ (.slice (some ⟨gg,0,none⟩) (m.clauses.length+1) cap)) mb B m tD mD sz tN mN co cl ln kvs news gg cap∧AK w5 B #[tD,mD,sz,tN,mN,co,cl,ln]:=by
 have k5:=grownBy_keeps' hgrow (Aa cl) (fun r e=>.inl (by simp [Aa,e]));have ks:=AA.setCell w5 ⟨B,6,none⟩ (.slice (some ⟨gg,0,none⟩) (m.clauses.length+1) cap);have hBcl:B∉Aa cl:=fun hx=>by
  have hf:=hV.foot;rw [Iq] at hf;exact ((Cn hf).1 B (by simp [hx])).1 (by simp [Io])
 have hB5:=(hV.cells.keeps kA).keeps k5 hBcl;have hBl:=hV.cells.lt;have hgg:gg∈Aa cl∨gg=wr.heap.size+1:=by
  rcases hat with q | q
  ·left;simp [Aa,q]
  ·exact .inr q
 refine ⟨⟨hB5.setCell 6 _,AH hown ks (fun j hj q=>?_),((kA.mono (by simp)).trans (k5.mono (fun i hi=>by simp [hi]))).trans (ks.mono (by simp)),?_⟩,hB5⟩
 ·have e1:gg=j:=(by simpa [Value.ownBlock] using hj);have e2:j=B:=(by simpa using q);rcases hgg with p | p
  ·exact hBcl (by rw [←e2,←e1];exact p)
  ·omega
 ·rcases hgg with p | p
  ·exact .inl p
  ·right;omega
theorem Uy {w wr wc w5:World} {S mb B C:Nat} {m:Mean} {tD mD sz tN mN co cl ln:Value} {cvs kvs:List Value} {n:Tn} {tav lav:Value} {sc:Ba} {hx:BW} {hv:Value} {xs:List (BW×Bool)} {lv:Value} {ls:List Value} {gg cap g2 cap2:Nat} {W0:World} (kA:AA [] wc W0) (hm:IG w mb B m tD mD sz tN mN co cl ln cvs kvs) (hmb:mb≤w.heap.size) (hC:Zn w wr S B C n tav lav sc hx hv xs lv ls) (hG:VJ wr wc mb B m tD mD sz tN mN co cl ln kvs [.int .i64 (hx.rel:Int),hv,lv] gg cap)
  (hown:w5.ownsRow mb 3 1 (.slice (some ⟨g2,0,none⟩) (m.clauses.length+1) cap2) (m.clauses.length+1) (Ft (m.clauses.map (·.line))++[.int .i64 (n.line:Int)])) (hgrow:W0.grownBy w5 ln.ownBlock) (hat:ln.ownBlock=some g2∨g2=wc.heap.size+1):AK w5 B #[tD,mD,sz,tN,mN,co,.slice (some ⟨gg,0,none⟩) (m.clauses.length+1) cap,ln]∧B5 (w5.setCell ⟨B,7,none⟩ (.slice (some ⟨g2,0,none⟩) (m.clauses.length+1) cap2)) mb B { m with clauses:=m.clauses++[⟨hx,xs,n.line⟩] }∧∃ T,AA T w (w5.setCell ⟨B,7,none⟩ (.slice (some ⟨g2,0,none⟩) (m.clauses.length+1) cap2))∧∀ j∈T,mb≤j:=by
 have k5:=grownBy_keeps' hgrow (Aa ln) (fun r e=>.inl (by simp [Aa,e]));have ks:=AA.setCell w5 ⟨B,7,none⟩ (.slice (some ⟨g2,0,none⟩) (m.clauses.length+1) cap2);have hf:=hm.foot;rw [Iq] at hf;have hAp:=Cn hf;have hBh:B∈Io B tD mD sz tN mN co:=by simp [Io]
 have hBcl:B∉Aa cl:=fun q=>(hAp.1 B (by simp [q])).1 hBh;have hBln:B∉Aa ln:=fun q=>(hAp.1 B (by simp [q])).1 hBh;have hcl_ln:∀ j∈Aa cl,j∉Aa ln:=fun j hj q=>by
  have h2:(Io B tD mD sz tN mN co++Aa cl++Aa ln).Nodup:=by have:=hm.foot;rw [Iq] at this;simpa using this
  exact ((Cn h2).1 j hj).2 q
 have hfl:=hm.foot_lt;have hl1:∀ j∈Aa cl++Aa ln,mb≤j∧j<w.heap.size:=fun j hj=>hfl j (by rw [Iq];exact AN _ (AT _ hj));have hl2:∀ j∈Io B tD mD sz tN mN co,mb≤j∧j<w.heap.size:=fun j hj=>hfl j (by rw [Iq];exact AN _ (AN _ hj));have hsr:=hC.keep.size;have hsc:=hG.keep.size;have hggl:gg<wc.heap.size:=(Bd hG.row gg rfl).2;have hg2:g2∈Aa ln∨g2=wc.heap.size+1:=by
  rcases hat with q | q
  ·left;simp [Aa,q]
  ·exact .inr q
 have hB5:=(hG.cells.keeps kA).keeps k5 hBln;have hBw:B<w.heap.size:=hm.cells.lt;have hggln:gg∉Aa ln:=fun q=>by
  rcases hG.at_ with p | p
  ·exact hcl_ln gg p q
  ·have:=(hl1 gg (by simp [q])).2;omega
 have hggB:gg≠B:=by
  rcases hG.at_ with p | p
  ·rintro rfl;exact hBcl p
  ·omega
 have hg2B:g2≠B:=by
  rcases hg2 with p | p
  ·rintro rfl;exact hBln p
  ·omega
 have hgg2:gg≠g2:=by
  rcases hg2 with p | p
  ·rintro rfl;exact hggln p
  ·omega
 have eg:Aa (.slice (some ⟨gg,0,none⟩) (m.clauses.length+1) cap)=[gg]:=rfl;have e2:Aa (.slice (some ⟨g2,0,none⟩) (m.clauses.length+1) cap2)=[g2]:=rfl;have kall:AA ([B]++(Aa cl++Aa ln)) wr (w5.setCell ⟨B,7,none⟩ (.slice (some ⟨g2,0,none⟩) (m.clauses.length+1) cap2)):=(((hG.keep.mono (fun i hi=>by simp at hi ⊢;rcases hi with q | q <;> simp [q])).trans (kA.mono (by simp))).trans (k5.mono (fun i hi=>by simp [hi]))).trans (ks.mono (by simp));have hVr:=hm.keeps hC.keep;have hClt:=hC.lt;have hnT:∀ j,w.heap.size≤j→j∉[B]++(Aa cl++Aa ln):=fun j hj q=>by
  rcases AC.1 q with q | q
  ·have e:j=B:=(by simpa using q);omega
  ·have:=(hl1 j q).2;omega
 have hnF:∀ j,w.heap.size≤j→j<wr.heap.size→j∉Do B tD mD sz tN mN co (.slice (some ⟨gg,0,none⟩) (m.clauses.length+1) cap) (.slice (some ⟨g2,0,none⟩) (m.clauses.length+1) cap2):=fun j hj1 hj2 q=>by
  rw [Iq,eg,e2] at q;simp only [AC,AF,A7,or_false] at q;rcases q with q | q | q
  ·have:=(hl2 j q).2;omega
  ·rcases hG.at_ with p | p
   ·have:=(hl1 gg (by simp [p])).2;omega
   ·omega
  ·rcases hg2 with p | p
   ·have:=(hl1 g2 (by simp [p])).2;omega
   ·omega
 have hblk:∀ j∈Aa hv++Aa lv++D6 ls,w.heap.size≤j∧j<wr.heap.size:=fun j hj=>hClt j (AT _ hj);refine ⟨hB5,hVr.addClause (c:=⟨hx,xs,n.line⟩) (hv:=hv) (lv:=lv) (ls:=ls) kall (fun j hj=>.inl hj) (hB5.setCell 7 _) ?_ ?_ ?_ (fun j hj=>hnF j (hblk j (by simp [hj])).1 (hblk j (by simp [hj])).2) ?_ (fun j hj=>hnF j (hblk j (by simp [hj])).1 (hblk j (by simp [hj])).2) ?_ (fun j hj=>?_) ?_,[B]++(Aa cl++Aa ln),(hC.keep.mono (by simp)).trans kall,fun j hj=>?_⟩
 ·exact AH (AH (AH hG.row kA) k5 (fun j hj=>by have e:gg=j:=(by simpa [Value.ownBlock] using hj);rw [←e];exact hggln)) ks (fun j hj q=>by have e:gg=j:=(by simpa [Value.ownBlock] using hj);have e':j=B:=(by simpa using q);exact hggB (by rw [e,e']))
 ·exact AH hown ks (fun j hj q=>by have e:g2=j:=(by simpa [Value.ownBlock] using hj);have e':j=B:=(by simpa using q);exact hg2B (by rw [e,e']))
 ·exact BZ (AH hC.hrow kall (fun j hj=>hnT j (hblk j (by simp [Aa,hj])).1)) hmb
 ·exact BZ (AH hC.lrow kall (fun j hj=>hnT j (hblk j (by simp [Aa,hj])).1)) hmb
 ·exact ((hC.lits.kept kall (fun j hj q=>hnT j (hblk j (by simp [q])).1 hj)).mono hmb).far (fun j hj=>hnF j (hblk j (by simp [hj])).1 (hblk j (by simp [hj])).2)
 ·rw [eg,e2] at hj;simp only [AC,AF] at hj;rcases hj with q | q
  ·rcases hG.at_ with p | p
   ·left;rw [q];simp [p]
   ·right;omega
  ·rcases hg2 with p | p
   ·left;rw [q];simp [p]
   ·right;omega
 ·rw [eg,e2];simp [hgg2]
 ·rcases AC.1 hj with q | q
  ·have e:j=B:=(by simpa using q);rw [e];exact hm.low
  ·exact (hl1 j q).1
end
end Go.Proofs.YtgjomknpjigkhaaGreatDoor
