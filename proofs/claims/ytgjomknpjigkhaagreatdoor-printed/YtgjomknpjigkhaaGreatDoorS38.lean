import Derived.Test.YtgjomknpjigkhaaGreatDoorS36
import Derived.Test.YtgjomknpjigkhaaGreatDoorS37
import Derived.Test.YtgjomknpjigkhaaGreatDoorS35
namespace Go.Proofs.YtgjomknpjigkhaaGreatDoor
set_option maxRecDepth 100000
set_option maxHeartbeats 4000000
section
open Go.RowKit
theorem domM_calls {w:World} {mb B:Nat} {m:Mean} (h:MeanAt w mb B m) (hok:MeanOk m) (hmb:mb≤w.heap.size) (n z:Tn) {zs:ByteArray} (hzg:z.g=.int zs) (hzw:WfG z.g):Calls Tryz.prog 334 #[.agg #[.string (kindOf n.g),.string (txt n.g),.int .i64 n.line,.string (kindOf z.g),.string (txt z.g),.int .i64 z.line],.pointer (some ⟨B,0,none⟩)] w fun e w'=>AddTo mb B (addDom m n z) e w'∧∃ T,Keeps T w w'∧∀ j∈T,mb≤j:=by
 unfold addDom
 by_cases h4:m.doms.length=4
 ·rw [if_pos h4]
  refine (dom_many h n z h4).mono ?_
  rintro e w' ⟨rfl,k⟩
  exact ⟨rfl,[],k,by simp⟩
 ·rw [if_neg h4]
  cases ht:m.taken (txt n.g) with
  | true=>
   rw [if_pos rfl]
   refine (dom_taken h n z h4 ht).mono ?_
   rintro e w' ⟨rfl,k⟩
   exact ⟨rfl,[],k,by simp⟩
  | false=>
   rw [if_neg (by simp)]
   refine (dom_rest h hmb n z hzg hzw h4 hok.doms ht).mono ?_
   rintro e w' ⟨hd,hT⟩
   refine ⟨?_,hT⟩
   unfold DomTo at hd
   by_cases hr:numOf z.g<1∨8<numOf z.g
   ·rw [if_pos hr] at hd ⊢;exact hd
   ·rw [if_neg hr] at hd ⊢;exact hd
theorem relM_calls {w:World} {mb ib B:Nat} {m:Mean} (h:MeanAt w mb B m) (hok:MeanOk m) (hmb:mb≤w.heap.size) (n:Tn) (cs:List Tn) {av:Option Addr} {cc:Nat} (hcv:w.ownsRow ib 129 3 (.slice av cs.length cc) cs.length (tokCs cs)) (hcl:cs.length≤1000000):Calls Tryz.prog 337 #[.agg #[.string (kindOf n.g),.string (txt n.g),.int .i64 n.line,.slice av cs.length cc],.pointer (some ⟨B,0,none⟩)] w fun e w'=>AddTo mb B (addRel m n cs) e w'∧∃ T,Keeps T w w'∧∀ j∈T,mb≤j:=by
 unfold addRel
 by_cases h4:m.rels.length=6
 ·rw [if_pos h4]
  refine (rel_many h n _ rfl h4).mono ?_
  rintro e w' ⟨rfl,k⟩
  exact ⟨rfl,[],k,by simp⟩
 ·rw [if_neg h4]
  cases ht:m.taken (txt n.g) with
  | true=>
   rw [if_pos rfl]
   refine (rel_taken h n _ rfl h4 ht).mono ?_
   rintro e w' ⟨rfl,k⟩
   exact ⟨rfl,[],k,by simp⟩
  | false=>
   rw [if_neg (by simp)]
   refine (rel_rest h hmb n cs hcv hcl h4 hok.rels ht).mono ?_
   rintro e w' ⟨hd,hT⟩
   refine ⟨?_,hT⟩
   cases hc:colsS m 0 cs with
   | error f=>rw [hc] at hd;exact hd
   | ok ds=>rw [hc] at hd;exact hd
theorem clauseM_calls {w:World} {mb ib B:Nat} {m:Mean} (h:MeanAt w mb B m) (hok:MeanOk m) (hmb:mb≤w.heap.size) (a:AtomI) (ls:List LitI) {ah al:Option Addr} {ch cl:Nat} {cs:List Value} {X:List Nat} (hhv:w.ownsRow ib 129 3 (.slice ah a.terms.length ch) a.terms.length (tokCs a.terms)) (hlv:w.ownsRow ib 353 5 (.slice al ls.length cl) ls.length cs) (hls:LitsAre w ib X ls cs) (htl:a.terms.length≤1000000) (htt:∀ t∈a.terms,isTermG t.g=true∧WfG t.g) (hll:ls.length≤1000000) (hlt:∀ l∈ls,l.atom.terms.length≤1000000∧∀ t∈l.atom.terms,isTermG t.g=true∧WfG t.g):Calls Tryz.prog 338 #[.agg #[.string (kindOf a.name.g),.string (txt a.name.g),.int .i64 a.name.line,.slice ah a.terms.length ch,.slice al ls.length cl],.pointer (some ⟨B,0,none⟩)] w fun e w'=>AddTo mb B (addClause m a ls) e w'∧∃ T,Keeps T w w'∧∀ j∈T,mb≤j:=by
 by_cases h52:m.clauses.length=52
 ·refine (clause_many h a.name ah al a.terms.length ch ls.length cl h52).mono ?_
  rintro e w' ⟨rfl,k⟩
  exact ⟨by unfold addClause;rw [if_pos h52];rfl,[],k,by simp⟩
 ·exact clause_walk h hok hmb a ls hhv hlv hls htl htt hll hlt h52
def ItemWf:ItemI→Prop
 | .dom _ z=>(∃ zs,z.g=.int zs)∧WfG z.g
 | .rel _ cs=>cs.length≤1000000
 | .clause a ls=>(a.terms.length≤1000000∧∀ t∈a.terms,isTermG t.g=true∧WfG t.g)∧ls.length≤1000000∧∀ l∈ls,l.atom.terms.length≤1000000∧∀ t∈l.atom.terms,isTermG t.g=true∧WfG t.g
theorem ItemsAre.at {w:World} {base:Nat} {X:List Nat} {is:List ItemI} {vs:List Value} (h:ItemsAre w base X is vs) {i:Nat} {it:ItemI} (hi:is[i]?=some it):∃ v,vs[i]?=some v∧ItemV w base X it v:=by
 induction is generalizing vs i with
 | nil=>simp at hi
 | cons x is ih=>
  obtain ⟨v,rest,h1,h2,h3⟩:=h
  subst h1
  cases i with
  | zero=>simp at hi;subst hi;exact ⟨v,rfl,h2⟩
  | succ i=>obtain ⟨u,k1,k2⟩:=ih h3 (by simpa using hi);exact ⟨u,by simpa using k1,k2⟩
theorem mean_new (w:World):MeanAt (w.alloc (.cells #[.slice none 0 0,.map none,.slice none 0 0,.slice none 0 0,.map none,.slice none 0 0,.slice none 0 0,.slice none 0 0] 207)) w.heap.size w.heap.size emptyM:=by
 have sv:∀ {W:World} {b:Nat} {X:List Nat},SetV W b X (.slice none 0 0) (.map none) []:=⟨World.ownsRow_nil ..,fun j hj=>by simp [Value.ownBlock] at hj,.inl ⟨rfl,rfl⟩⟩
 exact ⟨.slice none 0 0,.map none,.slice none 0 0,.slice none 0 0,.map none,.slice none 0 0,.slice none 0 0,.slice none 0 0,[],[],CellsAt.new w _ 207,Nat.le_refl _,by simp [footL,ownL,mapL,Value.ownBlock],sv,World.ownsRow_nil ..,sv,World.ownsRow_nil ..,rfl,World.ownsRow_nil ..,rfl,World.ownsRow_nil ..⟩
def SenseTo (z:Nat) (r:Except Flt Mean) (e:Ending) (w':World):Prop:=match r with
 | .ok m=>e=.returned (.pointer (some ⟨z,0,none⟩))∧MeanAt w' z z m
 | .error f=>e=gaveUp f.1 f.2
theorem understand_calls {w:World} {ib:Nat} {X:List Nat} (is:List ItemI) {iv:Value} {vs:List Value} (hrow:w.ownsRow ib 273 1 iv is.length vs) (hia:ItemsAre w ib X is vs) (hwf:∀ i∈is,ItemWf i) (hl:is.length≤1000000):Calls Tryz.prog 134 #[iv] w fun e w'=>SenseTo w.heap.size (senseS emptyM is) e w'∧Keeps [] w w':=by
 obtain ⟨ai,ci,hy⟩:=ownE_len hrow
 subst hy
 have kA:=Keeps.alloc [] w (.cells #[.slice none 0 0,.map none,.slice none 0 0,.slice none 0 0,.map none,.slice none 0 0,.slice none 0 0,.slice none 0 0] 207)
 have Hm0:=hide (mean_new w)
 have Hrow:=hide hrow
 have Hia:=hide hia
 have Hwf:=hide hwf
 generalize hR:senseS emptyM is=R
 have HR:=hide hR
 clear hR hrow hia hwf
 go_enter Tryz.func134,Tryz.ntmps134
 go_wp2_with fail
 go_loopw [10] (fun x wr=>∃ (i:Nat) (m:Mean),x=.int .i64 i∧i≤is.length∧MeanAt wr w.heap.size w.heap.size m∧MeanOk m∧Keeps [] w wr∧w.heap.size≤wr.heap.size∧senseS m (is.drop i)=R) (fun x _=>is.length - (intOf x).toNat)
 case atStart=>exact ⟨0,emptyM,rfl,by omega,Hm0.out,MeanOk.empty,kA,kA.size,by rw [List.drop_zero];exact HR.out⟩
 case round=>
  obtain ⟨i,m,rfl,hil,hm,hok,kr,hsz,hres⟩:=hrel
  have Hm:=hide hm
  clear Hm0 HR kA hm
  by_cases hlt:i<is.length
  ·obtain ⟨it,hit⟩:∃ it,is[i]?=some it:=⟨_,List.getElem?_eq_getElem hlt⟩
   have hdi:is.drop i=it :: is.drop (i+1):=by
    rw [List.drop_eq_getElem_cons hlt]
    congr 1
    rw [List.getElem?_eq_getElem hlt] at hit
    exact Option.some.inj hit
   rw [hdi,senseS] at hres
   have hrr:=ownsRow_kept Hrow.out kr (by simp)
   obtain ⟨gt,hgt⟩:=ownE_pos2 hrr (by omega)
   subst hgt
   obtain ⟨v,hv,hiv⟩:=Hia.out.at hit
   have hcell:=ownE_cell hrr hv
   have hw1:=Hwf.out it (List.mem_of_getElem? hit)
   have hiI:(i:Int)<is.length:=by omega
   have hiv2:=hiv.keeps kr (by simp)
   have hgl:gt<wr.heap.size:=(ownE_lt hrr gt rfl).2
   have Hgo:Hid (∀ m',addItem m it=.ok m'→MeanOk m'):=hide (fun m' h=>addItem_ok hok h)
   clear hdi hit hiv hrr hv
   cases it with
   | dom n z=>
    obtain ⟨⟨zs,hzg⟩,hzw⟩:=hw1
    have e:v=_:=hiv2
    subst e
    have hcall:=hide (domM_calls Hm.out hok hsz n z hzg hzw)
    have hres':(match addDom m n z with | .error f=>Except.error f | .ok m'=>senseS m' (is.drop (i+1)))=R:=hres
    clear hiv2 hzg hzw hres
    cases hr:addDom m n z with
    | error f=>
     rw [hr] at hcall hres'
     have Hres:=hide hres'
     clear hres' hr
     go_wp2_with fail
     refine hcall.out.mono ?_
     rintro e w1 ⟨rfl,T,k1,hT⟩
     exact ⟨rfl,by rw [←Hres.out];rfl,kr.trans_new k1 (fun j hj=>.inr (hT j hj))⟩
    | ok m'=>
     rw [hr] at hcall hres'
     have Hres:=hide hres'
     have Hok:=hide (Hgo.out m' hr)
     clear hres' hr
     go_wp2_with fail
     refine hcall.out.mono ?_
     rintro e w1 ⟨⟨rfl,hm1⟩,T,k1,hT⟩
     have Hm1:=hide hm1
     have k2:=kr.trans_new k1 (fun j hj=>.inr (hT j hj))
     clear hm1
     go_wp2_with fail
     go_roundw
     ·exact ⟨i+1,m',by simp,by omega,Hm1.out,Hok.out,k2,k2.size,Hres.out⟩
     ·simp only [intOf];omega
   | rel n cs=>
    obtain ⟨cv,hcv,hcr,_⟩:=hiv2
    obtain ⟨ca,cc,hcc⟩:=ownE_len hcr
    subst hcc
    subst hcv
    have hcall:=hide (relM_calls Hm.out hok hsz n cs hcr hw1)
    have hres':(match addRel m n cs with | .error f=>Except.error f | .ok m'=>senseS m' (is.drop (i+1)))=R:=hres
    clear hcr hw1 hres
    cases hr:addRel m n cs with
    | error f=>
     rw [hr] at hcall hres'
     have Hres:=hide hres'
     clear hres' hr
     go_wp2_with fail
     refine hcall.out.mono ?_
     rintro e w1 ⟨rfl,T,k1,hT⟩
     exact ⟨rfl,by rw [←Hres.out];rfl,kr.trans_new k1 (fun j hj=>.inr (hT j hj))⟩
    | ok m'=>
     rw [hr] at hcall hres'
     have Hres:=hide hres'
     have Hok:=hide (Hgo.out m' hr)
     clear hres' hr
     go_wp2_with fail
     refine hcall.out.mono ?_
     rintro e w1 ⟨⟨rfl,hm1⟩,T,k1,hT⟩
     have Hm1:=hide hm1
     have k2:=kr.trans_new k1 (fun j hj=>.inr (hT j hj))
     clear hm1
     go_wp2_with fail
     go_roundw
     ·exact ⟨i+1,m',by simp,by omega,Hm1.out,Hok.out,k2,k2.size,Hres.out⟩
     ·simp only [intOf];omega
   | clause a ls=>
    obtain ⟨hv,lv,cs,hcv,hhr,_,hlr,_,hla⟩:=hiv2
    obtain ⟨ha,hc,hcc⟩:=ownE_len hhr
    subst hcc
    obtain ⟨la,lc,hcc⟩:=ownE_len hlr
    subst hcc
    subst hcv
    have hcall:=hide (clauseM_calls Hm.out hok hsz a ls hhr hlr hla hw1.1.1 hw1.1.2 hw1.2.1 hw1.2.2)
    have hres':(match addClause m a ls with | .error f=>Except.error f | .ok m'=>senseS m' (is.drop (i+1)))=R:=hres
    clear hhr hlr hla hw1 hres
    cases hr:addClause m a ls with
    | error f=>
     rw [hr] at hcall hres'
     have Hres:=hide hres'
     clear hres' hr
     go_wp2_with fail
     refine hcall.out.mono ?_
     rintro e w1 ⟨rfl,T,k1,hT⟩
     exact ⟨rfl,by rw [←Hres.out];rfl,kr.trans_new k1 (fun j hj=>.inr (hT j hj))⟩
    | ok m'=>
     rw [hr] at hcall hres'
     have Hres:=hide hres'
     have Hok:=hide (Hgo.out m' hr)
     clear hres' hr
     go_wp2_with fail
     refine hcall.out.mono ?_
     rintro e w1 ⟨⟨rfl,hm1⟩,T,k1,hT⟩
     have Hm1:=hide hm1
     have k2:=kr.trans_new k1 (fun j hj=>.inr (hT j hj))
     clear hm1
     go_wp2_with fail
     go_roundw
     ·exact ⟨i+1,m',by simp,by omega,Hm1.out,Hok.out,k2,k2.size,Hres.out⟩
     ·simp only [intOf];omega
  ·have hiI:¬ (i:Int)<is.length:=by omega
   have hdz:is.drop i=[]:=List.drop_eq_nil_of_le (by omega)
   rw [hdz,senseS] at hres
   have Hres:=hide hres
   clear hres hdz
   go_wp2_with fail
   go_ret
   refine ⟨?_,kr⟩
   rw [←Hres.out]
   exact ⟨rfl,Hm.out⟩
end
section
open Go.RowKit
theorem shr_and {a p:Nat}:((a >>> p) &&& 1:Nat)=if a.testBit p then 1 else 0:=by
 rw [Nat.and_one_is_mod,Nat.testBit_eq_decide_div_mod_eq,Nat.shiftRight_eq_div_pow]
 by_cases h:a / 2 ^ p % 2=1
 ·simp [h]
 ·simp only [h,decide_false,Bool.false_eq_true,if_false]
  omega
theorem shr_val (a p:Nat):(a:Int) / 2 ^ p=((a >>> p:Nat):Int):=by
 rw [Nat.shiftRight_eq_div_pow]
 simp
set_option maxHeartbeats 8000000 in
theorem circles_calls {w:World} {mb B:Nat} {m:Mean} (hm:MeanAt w mb B m) (hok:MeanOk m):Calls Tryz.prog 137 #[.pointer (some ⟨B,0,none⟩)] w fun e w'=>FirstTo 13 (firstC (circleC m.rels.length (edgesM m.clauses)) m.clauses) e∧Keeps [] w w':=by
 obtain ⟨a,cc,la,lc,hBl,hpos,hcl⟩:=mean_clause hm
 have hh:=hide (hanging_calls hm hok)
 have hn6:=hok.rels
 have hl52:=hok.clauses
 have Hl4:=hide hok.lits
 have Hrl:=hide hok.inR
 have Hcl:=hide (fun (W:World) (k:Keeps [] w W)=>hcl k)
 have Hpos:=hide hpos
 have hgu:=hide (fun (w:World) (l:Int)=>giveUp_calls (w:=w) 13 l)
 generalize hR:firstC (circleC m.rels.length (edgesM m.clauses)) m.clauses=R
 have HR:=hide hR
 clear hR hcl hpos hm hok
 go_enter Tryz.func137,Tryz.ntmps137
 go_wp2_with fail
 refine hh.out.mono ?_
 rintro e w1 ⟨⟨vals,rfl,hg,hvl,h64,hbit⟩,k1⟩
 have b6:=(Hcl.out w1 k1).1
 have hgl:=hg.lt
 have Hg:=hide hg
 have H64:=hide h64
 have Hbit:=hide hbit
 clear hh hg h64 hbit
 generalize hnn:m.rels.length=n at *
 go_wp2_with fail
 go_loopw [14] (fun x wr=>∃ i:Nat,x=.int .i64 i∧i≤m.clauses.length∧Keeps [] w1 wr∧firstC (circleC n (edgesM m.clauses)) (m.clauses.drop i)=R) (fun x _=>m.clauses.length - (intOf x).toNat)
 case atStart=>exact ⟨0,rfl,by omega,Keeps.refl [] w1,by rw [List.drop_zero];exact HR.out⟩
 case round=>
  obtain ⟨i,rfl,hil,kr,hres⟩:=hrel
  clear b6 HR
  have kw:=k1.trans kr
  by_cases hlt:i<m.clauses.length
  ·obtain ⟨c,hc⟩:∃ c,m.clauses[i]?=some c:=⟨_,List.getElem?_eq_getElem hlt⟩
   have hdi:m.clauses.drop i=c :: m.clauses.drop (i+1):=by
    rw [List.drop_eq_getElem_cons hlt]
    congr 1
    rw [List.getElem?_eq_getElem hlt] at hc
    exact Option.some.inj hc
   rw [hdi,firstC] at hres
   have hcm:=List.mem_of_getElem? hc
   have hl4:=Hl4.out c hcm
   obtain ⟨g,g2,hg,hgl2,hg2,hg2l⟩:=Hpos.out c hcm
   subst hg
   subst hg2
   obtain ⟨_,b7,hlines,hcells⟩:=Hcl.out wr kw
   obtain ⟨ha,hc',va,vc,ls,c0,c1,c2,hrow,hlrow,hlits⟩:=hcells i g c hc rfl
   have hiI:(i:Int)<m.clauses.length:=by omega
   have hsz:=kw.size
   have kK:=Keeps.alloc [] wr (.cells #[.int .i64 (c.head.rel:Int),.slice ha c.head.terms.length hc',.slice va c.lits.length vc] 154)
   have hK:=CellsAt.new wr #[.int .i64 (c.head.rel:Int),.slice ha c.head.terms.length hc',.slice va c.lits.length vc] 154
   have e2:=hK.cell 2
   have HK:=hide hK
   have Hc:=hide hc
   have Hlr:=hide hlrow
   have Hlits:=hide hlits
   have Hrr:=hide (Hrl.out c hcm)
   have kw1:=kr.trans kK
   have hcbl:=hK.lt
   clear hdi hrow hlines hcells hK hc b7 hlrow hlits hcm
   generalize hcbn:wr.heap.size=cb at *
   go_wp2_with fail
   go_loopw [22] (fun x ws=>∃ j:Nat,x=.int .i64 j∧j≤c.lits.length∧Keeps [] w1 ws∧CellsAt ws cb #[.int .i64 (c.head.rel:Int),.slice ha c.head.terms.length hc',.slice va c.lits.length vc]∧(if (c.lits.drop j).any (fun l=>l.2 && hangB n (edgesM m.clauses) l.1.rel c.head.rel) then some c.line else firstC (circleC n (edgesM m.clauses)) (m.clauses.drop (i+1)))=R) (fun x _=>c.lits.length - (intOf x).toNat)
   case atStart=>exact ⟨0,rfl,by omega,kw1,HK.out,by rw [List.drop_zero];exact hres⟩
   case round=>
    obtain ⟨j,rfl,hjl,ks,hcb,hmk⟩:=hrel
    clear e2 HK kw1 kK
    have ksw:=k1.trans ks
    have Hcb:=hide hcb
    have hcbl2:=hcb.lt
    clear hcb
    by_cases hjlt:j<c.lits.length
    ·obtain ⟨l,hl⟩:∃ l,c.lits[j]?=some l:=⟨_,List.getElem?_eq_getElem hjlt⟩
     have hdj:c.lits.drop j=l :: c.lits.drop (j+1):=by
      rw [List.drop_eq_getElem_cons hjlt]
      congr 1
      rw [List.getElem?_eq_getElem hjlt] at hl
      exact Option.some.inj hl
     rw [hdj,List.any_cons] at hmk
     obtain ⟨v,hv1,hv2⟩:=Hlits.out.at hl
     obtain ⟨v1,v2,hvv⟩:=ownE_len hv2
     subst hvv
     have hcr:=ownsRow_kept Hlr.out ksw (by simp)
     obtain ⟨gt,hgt⟩:=ownE_pos2 hcr (by omega)
     subst hgt
     have d0:wr.cell? ⟨gt,j * 3,none⟩=some (.int .i64 (l.1.rel:Int)):=ownE_cells hcr (by have:=hv1 0 (by omega);rw [Nat.add_zero] at this;rw [this];rfl)
     have d1:wr.cell? ⟨gt,j * 3+1,none⟩=some (.slice v1 l.1.terms.length v2):=ownE_cells hcr (by rw [hv1 1 (by omega)];rfl)
     have d2:wr.cell? ⟨gt,j * 3+2,none⟩=some (.bool l.2):=ownE_cells hcr (by rw [hv1 2 (by omega)];rfl)
     have hgtl:gt<wr.heap.size:=(ownE_lt hcr gt rfl).2
     have hjI:(j:Int)<c.lits.length:=by omega
     have kL:=Keeps.alloc [] wr (.cells #[.int .i64 (l.1.rel:Int),.slice v1 l.1.terms.length v2,.bool l.2] 279)
     have hLc:=CellsAt.new wr #[.int .i64 (l.1.rel:Int),.slice v1 l.1.terms.length v2,.bool l.2] 279
     have hlm:=List.mem_of_getElem? hl
     have hlr:l.1.rel<n:=Hrr.out.2 l hlm
     have hhr:c.head.rel<n:=Hrr.out.1
     have hbit:=Hbit.out l.1.rel c.head.rel hlr
     have h64:=H64.out l.1.rel
     have hcb4:=Hcb.out.keeps kL (by simp)
     have hg4:=Hg.out.keeps (ks.trans kL) (by simp)
     have f0:=hcb4.cell 0
     have q0:(wr.alloc (.cells #[.int .i64 (l.1.rel:Int),.slice v1 l.1.terms.length v2,.bool l.2] 279)).cell? ⟨w.heap.size,l.1.rel,none⟩=some (.int .i64 ((vals.getD l.1.rel 0:Nat):Int)):=by rw [hg4.cell];exact natC_at (by omega)
     have l0:=hLc.cell 0
     have l2:=hLc.cell 2
     have kall:=ks.trans kL
     have HC4:=hide (fun (W:World) (k:Keeps [] (wr.alloc (.cells #[.int .i64 (l.1.rel:Int),.slice v1 l.1.terms.length v2,.bool l.2] 279)) W)=>hcb4.keeps k (by simp))
     generalize vals.getD l.1.rel 0=V at *
     have hshr:=shr_val V c.head.rel
     have hand:=and_val (a:=V >>> c.head.rel) (b:=1) (by rw [Nat.shiftRight_eq_div_pow];have:=Nat.div_le_self V (2 ^ c.head.rel);omega) (by omega)
     rw [shr_and,hbit] at hand
     have hhI:(c.head.rel:Int)<n:=by omega
     have hlI:(l.1.rel:Int)<n:=by omega
     generalize hangB n (edgesM m.clauses) l.1.rel c.head.rel=hb at *
     clear hdj hl hv1 hv2 hcr hLc hcb4 hg4 hbit
     generalize hSR:V >>> c.head.rel=SR at *
     cases hl2:l.2 with
     | false=>
      rw [hl2] at hmk d2 kL l0 l2 f0 q0 kall HC4
      rw [Bool.false_and,Bool.false_or] at hmk
      have Hmk:=hide hmk
      clear hmk hl2
      go_wp2_with fail
      go_quiet (fail)
      go_wp2_with fail
      go_roundw
      ·exact ⟨j+1,by simp,by omega,kall.trans (Keeps.drewN _ _ _),HC4.out _ (Keeps.drewN _ _ _),Hmk.out⟩
      ·simp only [intOf];omega
     | true=>
      rw [hl2] at hmk d2 kL l0 l2 f0 q0 kall HC4
      rw [Bool.true_and] at hmk
      cases hb with
      | false=>
       rw [Bool.false_or] at hmk
       have Hmk:=hide hmk
       have hand2:bits .and .i64 (SR:Int) 1=0:=hand
       clear hand
       clear hmk hl2
       go_wp2_with fail
       go_quiet (fail)
       go_wp2_with fail
       go_roundw
       ·exact ⟨j+1,by simp,by omega,kall.trans (Keeps.drewN _ _ _),HC4.out _ (Keeps.drewN _ _ _),Hmk.out⟩
       ·simp only [intOf];omega
      | true=>
       rw [Bool.true_or,if_pos rfl] at hmk
       have Hmk:=hide hmk
       have hand2:bits .and .i64 (SR:Int) 1=1:=hand
       clear hand
       have kd:=((k1.trans kall).trans (Keeps.drewN [] _ 1))
       obtain ⟨_,b7,hlines,_⟩:=Hcl.out _ (k1.trans kall)
       have hl7:=hlines i g2 c Hc.out rfl
       clear hmk hl2 hlines
       go_wp2_with fail
       go_quiet (fail)
       go_wp2_with fail
       refine (hgu.out _ _).mono ?_
       rintro e w3 ⟨rfl,rfl⟩
       exact ⟨rfl,by rw [←Hmk.out];rfl,(k1.trans kall).trans (Keeps.drewN _ _ _)⟩
    ·have hjI:¬ (j:Int)<c.lits.length:=by omega
     have hdz:c.lits.drop j=[]:=List.drop_eq_nil_of_le (by omega)
     rw [hdz] at hmk
     have Hmk:Hid (firstC (circleC n (edgesM m.clauses)) (m.clauses.drop (i+1))=R):=hide hmk
     clear hmk hdz
     go_wp2_with fail
     go_roundw
     ·exact ⟨i+1,by simp,by omega,ks,Hmk.out⟩
     ·simp only [intOf];omega
  ·have hiI:¬ (i:Int)<m.clauses.length:=by omega
   have hdz:m.clauses.drop i=[]:=List.drop_eq_nil_of_le (by omega)
   rw [hdz,firstC] at hres
   have Hres:=hide hres
   clear hres hdz
   go_wp2_with fail
   go_end0
   exact ⟨by rw [←Hres.out];rfl,kw⟩
end
section
open Go.RowKit
theorem tok_cells (ts:List Tn) (m:Nat):tcells (ts.map toTk++[⟨strEnd,⟨#[]⟩,m⟩])=tokCs (withEnd ts m):=by
 have e:∀ ts:List Tn,tcells (ts.map toTk)=tokCs ts:=fun ts=>by
  induction ts with
  | nil=>rfl
  | cons t ts ih=>
   show _++tcells (ts.map toTk)=_++tokCs ts
   rw [ih]
   rfl
 have h1:tcells (ts.map toTk++[⟨strEnd,⟨#[]⟩,m⟩])=tcells (ts.map toTk)++tcells [⟨strEnd,⟨#[]⟩,m⟩]:=by simp [tcells]
 rw [h1,e,withEnd,tokCs_append]
 rfl
structure ProgAt (w:World) (base p:Nat) (toks:List Tn) (m:Mean) (vals:List Nat) (rv cl tv:Value) (rvs kvs:List Value):Prop where
 cells:CellsAt w p #[rv,cl,tv]
 low:base≤p
 rels:w.ownsRow base 144 3 rv m.rels.length rvs
 relsA:RelVs w base [] (relsM m vals) rvs
 cls:w.ownsRow base 154 3 cl m.clauses.length kvs
 clsA:ClauseMs w base [] m.clauses kvs
 toks:w.ownsRow base 129 3 tv toks.length (tokCs toks)
 lay:LayI m.clauses m.rels.length vals
 stable:StableG layG m.clauses vals
def ReadTo (z:Nat) (r:Except Flt (List Tn×Mean)) (e:Ending) (w':World):Prop:=match r with
 | .error f=>e=gaveUp f.1 f.2
 | .ok (toks,m)=>∃ p vals rv cl tv rvs kvs,e=.returned (.pointer (some ⟨p,0,none⟩))∧ProgAt w' z p toks m vals rv cl tv rvs kvs
theorem RelVs.farN {w:World} {base:Nat} {X:List Nat} {rs:List RelM} {vs:List Value} (h:RelVs w base X rs vs):RelVs w base [] rs vs:=by
 induction rs generalizing vs with
 | nil=>exact h
 | cons r rs ih=>
  obtain ⟨v,rest,h1,h2,h3,h4⟩:=h
  exact ⟨v,rest,h1,h2,by simp,ih h4⟩
theorem RelVs.mono {w:World} {base base':Nat} {X:List Nat} {rs:List RelM} {vs:List Value} (h:RelVs w base X rs vs) (hb:base'≤base):RelVs w base' X rs vs:=by
 induction rs generalizing vs with
 | nil=>exact h
 | cons r rs ih=>
  obtain ⟨v,rest,h1,h2,h3,h4⟩:=h
  exact ⟨v,rest,h1,ownE_mono h2 hb,h3,ih h4⟩
theorem ClauseMs.farN {w:World} {base base':Nat} {X:List Nat} {cs:List ClauseM} {vs:List Value} (h:ClauseMs w base X cs vs) (hb:base'≤base):ClauseMs w base' [] cs vs:=by
 induction cs generalizing vs with
 | nil=>exact h
 | cons r rs ih=>
  obtain ⟨hv,lv,ls,rest,h1,h2,h3,h4,h5,h6,h7⟩:=h
  exact ⟨hv,lv,ls,rest,h1,ownE_mono h2 hb,by simp,ownE_mono h4 hb,by simp,(h6.far (by simp)).mono hb,ih h7⟩
theorem MatchTs.fine {sc:Scope} {ts:List Tn} {xs:List TermM} (h:MatchTs sc ts xs) (h4:sc.length≤4):NumOk xs∧xs.length=ts.length:=by
 induction ts generalizing xs with
 | nil=>cases xs with
  | nil=>exact ⟨fun x hx=>(by cases hx),rfl⟩
  | cons x xs=>exact absurd h (by simp [MatchTs])
 | cons t ts ih=>cases xs with
  | nil=>exact absurd h (by simp [MatchTs])
  | cons x xs=>
   obtain ⟨h1,h2⟩:MatchT sc t x∧MatchTs sc ts xs:=h
   obtain ⟨a,b⟩:=ih h2
   refine ⟨fun y hy hv=>?_,by simp [b]⟩
   rcases List.mem_cons.1 hy with rfl | hy
   ·obtain ⟨p,d,hp,hs⟩:=h1.2 hv
    refine ⟨p,hp,?_⟩
    rcases Nat.lt_or_ge p sc.length with q | q
    ·omega
    ·rw [List.getElem?_eq_none q] at hs;cases hs
   ·exact a y hy hv
theorem MatchLs.fine {sc:Scope} {ls:List LitI} {xs:List (AtomM×Bool)} (h:MatchLs sc ls xs) (h4:sc.length≤4) (hl:∀ l∈ls,l.atom.terms.length≤1000000):∀ x∈xs,TermsFine x.1.terms:=by
 induction ls generalizing xs with
 | nil=>cases xs with
  | nil=>intro x hx;cases hx
  | cons x xs=>exact absurd h (by simp [MatchLs])
 | cons l ls ih=>cases xs with
  | nil=>exact absurd h (by simp [MatchLs])
  | cons x xs=>
   have h':=h
   simp only [MatchLs] at h'
   intro y hy
   rcases List.mem_cons.1 hy with rfl | hy
   ·have hf:=h'.1.fine h4
    have:=hl l (by simp)
    exact ⟨hf.1,by omega⟩
   ·exact ih (by first | exact h'.2.2 | exact h'.2) (fun l hl'=>hl l (by simp [hl'])) y hy
theorem MatchCs.fine {cs:List (AtomI×List LitI)} {xs:List ClauseM} (h:MatchCs cs xs) (hc:∀ c∈cs,c.1.terms.length≤1000000∧∀ l∈c.2,l.atom.terms.length≤1000000):∀ x∈xs,ClauseFine x:=by
 induction cs generalizing xs with
 | nil=>cases xs with
  | nil=>intro x hx;cases hx
  | cons x xs=>exact absurd h (by simp [MatchCs])
 | cons c cs ih=>cases xs with
  | nil=>exact absurd h (by simp [MatchCs])
  | cons x xs=>
   obtain ⟨h1,h2⟩:MatchC c x∧MatchCs cs xs:=h
   intro y hy
   rcases List.mem_cons.1 hy with rfl | hy
   ·obtain ⟨sc,_,h4,hh,hl,_⟩:=h1
    have hf:=hh.fine h4
    have:=hc c (by simp)
    exact ⟨⟨hf.1,by omega⟩,hl.fine h4 this.2⟩
   ·exact ih h2 (fun c' hc'=>hc c' (by simp [hc'])) y hy
theorem firstC_none {p:ClauseM→Bool} {cs:List ClauseM} (h:firstC p cs=none):∀ c∈cs,p c=false:=by
 induction cs with
 | nil=>intro c hc;cases hc
 | cons c cs ih=>
  simp only [firstC] at h
  split at h
  ·cases h
  ·rename_i hp
   intro x hx
   rcases List.mem_cons.1 hx with rfl | hx
   ·simpa using hp
   ·exact ih h x hx
theorem clausesI_mem {is:List ItemI} {c:AtomI×List LitI} (h:c∈clausesI is):ItemI.clause c.1 c.2∈is:=by
 induction is with
 | nil=>cases h
 | cons i is ih=>
  cases i with
  | dom n z=>simp only [clausesI] at h;exact List.mem_cons_of_mem _ (ih h)
  | rel n cs=>simp only [clausesI] at h;exact List.mem_cons_of_mem _ (ih h)
  | clause a ls=>
   simp only [clausesI] at h
   rcases List.mem_cons.1 h with rfl | h
   ·simp
   ·exact List.mem_cons_of_mem _ (ih h)
end
end Go.Proofs.YtgjomknpjigkhaaGreatDoor
