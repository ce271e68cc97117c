import Derived.Test.YtgjomknpjigkhaaGreatDoorU24
import Derived.Test.YtgjomknpjigkhaaGreatDoorU25
namespace Go.Proofs.YtgjomknpjigkhaaGreatDoor
open Go.Proofs.Tryz
set_option maxRecDepth 100000
set_option maxHeartbeats 4000000
section
open Go.RowKit
theorem domM_calls {w:World} {mb B:Nat} {m:Mean} (h:jQB w mb B m) (hok:mQC m) (hmb:mb≤w.heap.size) (n z:Tn) {zs:ByteArray} (hzg:z.g=.int zs) (hzw:WfG z.g):Calls prog 334 #[.agg #[.string (eQA n.g),.string (txt n.g),.int .i64 n.line,.string (eQA z.g),.string (txt z.g),.int .i64 z.line],.pointer (some ⟨B,0,none⟩)] w fun e w'=>AddTo mb B (addDom m n z) e w'∧∃ T,aQA T w w'∧∀ j∈T,mb≤j:=by
 unfold addDom;by_cases h4:m.doms.length=4
 ·rw [if_pos h4];refine (dom_many h n z h4).mono ?_;rintro e w' ⟨rfl,k⟩;exact ⟨rfl,[],k,by simp⟩
 ·rw [if_neg h4];cases ht:m.taken (txt n.g) with
  | true=>
   rw [if_pos rfl];refine (dom_taken h n z h4 ht).mono ?_;rintro e w' ⟨rfl,k⟩;exact ⟨rfl,[],k,by simp⟩
  | false=>
   rw [if_neg (by simp)];refine (dom_rest h hmb n z hzg hzw h4 hok.doms ht).mono ?_;rintro e w' ⟨hd,hT⟩;refine ⟨?_,hT⟩;unfold DomTo at hd;by_cases hr:yQC z.g<1∨8<yQC z.g
   ·rw [if_pos hr] at hd ⊢;exact hd
   ·rw [if_neg hr] at hd ⊢;exact hd
theorem relM_calls {w:World} {mb ib B:Nat} {m:Mean} (h:jQB w mb B m) (hok:mQC m) (hmb:mb≤w.heap.size) (n:Tn) (cs:List Tn) {av:Option Addr} {cc:Nat} (hcv:w.ownsRow ib 129 3 (.slice av cs.length cc) cs.length (hQD cs)) (hcl:cs.length≤1000000):Calls prog 337 #[.agg #[.string (eQA n.g),.string (txt n.g),.int .i64 n.line,.slice av cs.length cc],.pointer (some ⟨B,0,none⟩)] w fun e w'=>AddTo mb B (addRel m n cs) e w'∧∃ T,aQA T w w'∧∀ j∈T,mb≤j:=by
 unfold addRel;by_cases h4:m.rels.length=6
 ·rw [if_pos h4];refine (rel_many h n _ rfl h4).mono ?_;rintro e w' ⟨rfl,k⟩;exact ⟨rfl,[],k,by simp⟩
 ·rw [if_neg h4];cases ht:m.taken (txt n.g) with
  | true=>
   rw [if_pos rfl];refine (rel_taken h n _ rfl h4 ht).mono ?_;rintro e w' ⟨rfl,k⟩;exact ⟨rfl,[],k,by simp⟩
  | false=>
   rw [if_neg (by simp)];refine (rel_rest h hmb n cs hcv hcl h4 hok.rels ht).mono ?_;rintro e w' ⟨hd,hT⟩;refine ⟨?_,hT⟩;cases hc:colsS m 0 cs with
   | error f=>rw [hc] at hd;exact hd
   | ok ds=>rw [hc] at hd;exact hd
theorem clauseM_calls {w:World} {mb ib B:Nat} {m:Mean} (h:jQB w mb B m) (hok:mQC m) (hmb:mb≤w.heap.size) (a:dQE) (ls:List LitI) {ah al:Option Addr} {ch cl:Nat} {cs:List Value} {X:List Nat} (hhv:w.ownsRow ib 129 3 (.slice ah a.terms.length ch) a.terms.length (hQD a.terms)) (hlv:w.ownsRow ib 353 5 (.slice al ls.length cl) ls.length cs) (hls:vQC w ib X ls cs) (htl:a.terms.length≤1000000) (htt:∀ t∈a.terms,zQA t.g=true∧WfG t.g) (hll:ls.length≤1000000) (hlt:∀ l∈ls,l.atom.terms.length≤1000000∧∀ t∈l.atom.terms,zQA t.g=true∧WfG t.g):Calls prog 338 #[.agg #[.string (eQA a.name.g),.string (txt a.name.g),.int .i64 a.name.line,.slice ah a.terms.length ch,.slice al ls.length cl],.pointer (some ⟨B,0,none⟩)] w fun e w'=>AddTo mb B (addClause m a ls) e w'∧∃ T,aQA T w w'∧∀ j∈T,mb≤j:=by
 by_cases h52:m.clauses.length=52
 ·refine (clause_many h a.name ah al a.terms.length ch ls.length cl h52).mono ?_;rintro e w' ⟨rfl,k⟩;exact ⟨by unfold addClause;rw [if_pos h52];rfl,[],k,by simp⟩
 ·exact clause_walk h hok hmb a ls hhv hlv hls htl htt hll hlt h52
def ItemWf:vQB→Prop
 | .dom _ z=>(∃ zs,z.g=.int zs)∧WfG z.g
 | .rel _ cs=>cs.length≤1000000
 | .clause a ls=>(a.terms.length≤1000000∧∀ t∈a.terms,zQA t.g=true∧WfG t.g)∧ls.length≤1000000∧∀ l∈ls,l.atom.terms.length≤1000000∧∀ t∈l.atom.terms,zQA t.g=true∧WfG t.g
theorem rQC.at {w:World} {base:Nat} {X:List Nat} {is:List vQB} {vs:List Value} (h:rQC w base X is vs) {i:Nat} {it:vQB} (hi:is[i]?=some it):∃ v,vs[i]?=some v∧zQI w base X it v:=by
 induction is generalizing vs i with
 | nil=>simp at hi
 | cons x is ih=>
  obtain ⟨v,rest,h1,h2,h3⟩:=h;subst h1;cases i with
  | zero=>simp at hi;subst hi;exact ⟨v,rfl,h2⟩
  | succ i=>obtain ⟨u,k1,k2⟩:=ih h3 (by simpa using hi);exact ⟨u,by simpa using k1,k2⟩
theorem mean_new (w:World):jQB (w.alloc (.cells #[.slice none 0 0,.map none,.slice none 0 0,.slice none 0 0,.map none,.slice none 0 0,.slice none 0 0,.slice none 0 0] 207)) w.heap.size w.heap.size pQH:=by
 have sv:∀ {W:World} {b:Nat} {X:List Nat},SetV W b X (.slice none 0 0) (.map none) []:=⟨World.ownsRow_nil ..,fun j hj=>by simp [Value.ownBlock] at hj,.inl ⟨rfl,rfl⟩⟩;exact ⟨.slice none 0 0,.map none,.slice none 0 0,.slice none 0 0,.map none,.slice none 0 0,.slice none 0 0,.slice none 0 0,[],[],cQA.new w _ 207,Nat.le_refl _,by simp [qQD,ownL,mapL,Value.ownBlock],sv,World.ownsRow_nil ..,sv,World.ownsRow_nil ..,rfl,World.ownsRow_nil ..,rfl,World.ownsRow_nil ..⟩
def SenseTo (z:Nat) (r:Except Flt Mean) (e:Ending) (w':World):Prop:=match r with
 | .ok m=>e=.returned (.pointer (some ⟨z,0,none⟩))∧jQB w' z z m
 | .error f=>e=gQC f.1 f.2
theorem understand_calls {w:World} {ib:Nat} {X:List Nat} (is:List vQB) {iv:Value} {vs:List Value} (hrow:w.ownsRow ib 273 1 iv is.length vs) (hia:rQC w ib X is vs) (hwf:∀ i∈is,ItemWf i) (hl:is.length≤1000000):Calls prog 134 #[iv] w fun e w'=>SenseTo w.heap.size (xQB pQH is) e w'∧aQA [] w w':=by
 obtain ⟨ai,ci,hy⟩:=fQA hrow;subst hy;have kA:=aQA.alloc [] w (.cells #[.slice none 0 0,.map none,.slice none 0 0,.slice none 0 0,.map none,.slice none 0 0,.slice none 0 0,.slice none 0 0] 207);have Hm0:=hide (mean_new w);have Hrow:=hide hrow;have Hia:=hide hia;have Hwf:=hide hwf;generalize hR:xQB pQH is=R;have HR:=hide hR;clear hR hrow hia hwf;go_enter func134,ntmps134
 go_wp2_with fail
 go_loopw [10] (fun x wr=>∃ (i:Nat) (m:Mean),x=.int .i64 i∧i≤is.length∧jQB wr w.heap.size w.heap.size m∧mQC m∧aQA [] w wr∧w.heap.size≤wr.heap.size∧xQB m (is.drop i)=R) (fun x _=>is.length - (intOf x).toNat)
 case atStart=>exact ⟨0,pQH,rfl,by omega,Hm0.out,mQC.empty,kA,kA.size,by rw [List.drop_zero];exact HR.out⟩
 case round=>
  obtain ⟨i,m,rfl,hil,hm,hok,kr,hsz,hres⟩:=hrel;have Hm:=hide hm;clear Hm0 HR kA hm;by_cases hlt:i<is.length
  ·obtain ⟨it,hit⟩:∃ it,is[i]?=some it:=⟨_,List.getElem?_eq_getElem hlt⟩;have hdi:is.drop i=it :: is.drop (i+1):=by
    rw [List.drop_eq_getElem_cons hlt];congr 1
    rw [List.getElem?_eq_getElem hlt] at hit;exact Option.some.inj hit
   rw [hdi,xQB] at hres;have hrr:=bQA Hrow.out kr (by simp);obtain ⟨gt,hgt⟩:=aQC hrr (by omega);subst hgt;obtain ⟨v,hv,hiv⟩:=Hia.out.at hit;have hcell:=yQG hrr hv;have hw1:=Hwf.out it (List.mem_of_getElem? hit);have hiI:(i:Int)<is.length:=(by omega);have hiv2:=hiv.keeps kr (by simp);have hgl:gt<wr.heap.size:=(qQA hrr gt rfl).2;have Hgo:Hid (∀ m',nQD m it=.ok m'→mQC m'):=hide (fun m' h=>addItem_ok hok h);clear hdi hit hiv hrr hv;cases it with
   | dom n z=>
    obtain ⟨⟨zs,hzg⟩,hzw⟩:=hw1;have e:v=_:=hiv2;subst e;have hcall:=hide (domM_calls Hm.out hok hsz n z hzg hzw);have hres':(match addDom m n z with | .error f=>Except.error f | .ok m'=>xQB m' (is.drop (i+1)))=R:=hres;clear hiv2 hzg hzw hres;cases hr:addDom m n z with
    | error f=>
     rw [hr] at hcall hres';have Hres:=hide hres';clear hres' hr;go_wp2_with fail
     refine hcall.out.mono ?_;rintro e w1 ⟨rfl,T,k1,hT⟩;exact ⟨rfl,by rw [←Hres.out];rfl,kr.trans_new k1 (fun j hj=>.inr (hT j hj))⟩
    | ok m'=>
     rw [hr] at hcall hres';have Hres:=hide hres';have Hok:=hide (Hgo.out m' hr);clear hres' hr;go_wp2_with fail
     refine hcall.out.mono ?_;rintro e w1 ⟨⟨rfl,hm1⟩,T,k1,hT⟩;have Hm1:=hide hm1;have k2:=kr.trans_new k1 (fun j hj=>.inr (hT j hj));clear hm1;go_wp2_with fail
     go_roundw
     ·exact ⟨i+1,m',by simp,by omega,Hm1.out,Hok.out,k2,k2.size,Hres.out⟩
     ·simp only [intOf];omega
   | rel n cs=>
    obtain ⟨cv,hcv,hcr,_⟩:=hiv2;obtain ⟨ca,cc,hcc⟩:=fQA hcr;subst hcc;subst hcv;have hcall:=hide (relM_calls Hm.out hok hsz n cs hcr hw1);have hres':(match addRel m n cs with | .error f=>Except.error f | .ok m'=>xQB m' (is.drop (i+1)))=R:=hres;clear hcr hw1 hres;cases hr:addRel m n cs with
    | error f=>
     rw [hr] at hcall hres';have Hres:=hide hres';clear hres' hr;go_wp2_with fail
     refine hcall.out.mono ?_;rintro e w1 ⟨rfl,T,k1,hT⟩;exact ⟨rfl,by rw [←Hres.out];rfl,kr.trans_new k1 (fun j hj=>.inr (hT j hj))⟩
    | ok m'=>
     rw [hr] at hcall hres';have Hres:=hide hres';have Hok:=hide (Hgo.out m' hr);clear hres' hr;go_wp2_with fail
     refine hcall.out.mono ?_;rintro e w1 ⟨⟨rfl,hm1⟩,T,k1,hT⟩;have Hm1:=hide hm1;have k2:=kr.trans_new k1 (fun j hj=>.inr (hT j hj));clear hm1;go_wp2_with fail
     go_roundw
     ·exact ⟨i+1,m',by simp,by omega,Hm1.out,Hok.out,k2,k2.size,Hres.out⟩
     ·simp only [intOf];omega
   | clause a ls=>
    obtain ⟨hv,lv,cs,hcv,hhr,_,hlr,_,hla⟩:=hiv2;obtain ⟨ha,hc,hcc⟩:=fQA hhr;subst hcc;obtain ⟨la,lc,hcc⟩:=fQA hlr;subst hcc;subst hcv;have hcall:=hide (clauseM_calls Hm.out hok hsz a ls hhr hlr hla hw1.1.1 hw1.1.2 hw1.2.1 hw1.2.2);have hres':(match addClause m a ls with | .error f=>Except.error f | .ok m'=>xQB m' (is.drop (i+1)))=R:=hres;clear hhr hlr hla hw1 hres;cases hr:addClause m a ls with
    | error f=>
     rw [hr] at hcall hres';have Hres:=hide hres';clear hres' hr;go_wp2_with fail
     refine hcall.out.mono ?_;rintro e w1 ⟨rfl,T,k1,hT⟩;exact ⟨rfl,by rw [←Hres.out];rfl,kr.trans_new k1 (fun j hj=>.inr (hT j hj))⟩
    | ok m'=>
     rw [hr] at hcall hres';have Hres:=hide hres';have Hok:=hide (Hgo.out m' hr);clear hres' hr;go_wp2_with fail
     refine hcall.out.mono ?_;rintro e w1 ⟨⟨rfl,hm1⟩,T,k1,hT⟩;have Hm1:=hide hm1;have k2:=kr.trans_new k1 (fun j hj=>.inr (hT j hj));clear hm1;go_wp2_with fail
     go_roundw
     ·exact ⟨i+1,m',by simp,by omega,Hm1.out,Hok.out,k2,k2.size,Hres.out⟩
     ·simp only [intOf];omega
  ·have hiI:¬ (i:Int)<is.length:=(by omega);have hdz:is.drop i=[]:=List.drop_eq_nil_of_le (by omega);rw [hdz,xQB] at hres;have Hres:=hide hres;clear hres hdz;go_wp2_with fail
   go_ret
   refine ⟨?_,kr⟩;rw [←Hres.out];exact ⟨rfl,Hm.out⟩
end
end Go.Proofs.YtgjomknpjigkhaaGreatDoor
