import Derived.Test.YtgjomknpjigkhaaGreatDoorZ22
import Derived.Test.YtgjomknpjigkhaaGreatDoorZ23
namespace Go.Proofs.YtgjomknpjigkhaaGreatDoor
open Go.Proofs.Tryz
set_option maxRecDepth 100000
set_option maxHeartbeats 4000000
section
open Go.RowKit
theorem Wm {w:World} {mb B:Nat} {m:Mean} (h:B5 w mb B m) (hok:DA m) (hmb:mb≤w.heap.size) (n z:Tn) {zs:ByteArray} (hzg:z.g=.int zs) (hzw:Pp z.g):Calls prog 334 #[.agg #[.string (AV n.g),.string (BB n.g),.int .i64 n.line,.string (AV z.g),.string (BB z.g),.int .i64 z.line],.pointer (some ⟨B,0,none⟩)] w fun e w'=>YD mb B (addDom m n z) e w'∧∃ T,AA T w w'∧∀ j∈T,mb≤j:=by
 unfold addDom;by_cases h4:m.doms.length=4
 ·rw [if_pos h4];refine (dW h n z h4).mono ?_;rintro e w' ⟨rfl,k⟩;exact ⟨rfl,[],k,by simp⟩
 ·rw [if_neg h4];cases ht:m.taken (BB n.g) with
  | true=>
   rw [if_pos rfl];refine (ZW h n z h4 ht).mono ?_;rintro e w' ⟨rfl,k⟩;exact ⟨rfl,[],k,by simp⟩
  | false=>
   rw [if_neg (by simp)];refine (dV h hmb n z hzg hzw h4 hok.doms ht).mono ?_;rintro e w' ⟨hd,hT⟩;refine ⟨?_,hT⟩;unfold VL at hd;by_cases hr:Cp z.g<1∨8<Cp z.g
   ·rw [if_pos hr] at hd ⊢;exact hd
   ·rw [if_neg hr] at hd ⊢;exact hd
theorem Vw {w:World} {mb ib B:Nat} {m:Mean} (h:B5 w mb B m) (hok:DA m) (hmb:mb≤w.heap.size) (n:Tn) (cs:List Tn) {av:Option Addr} {cc:Nat} (hcv:w.ownsRow ib 129 3 (.slice av cs.length cc) cs.length (De cs)) (hcl:cs.length≤1000000):Calls prog 337 #[.agg #[.string (AV n.g),.string (BB n.g),.int .i64 n.line,.slice av cs.length cc],.pointer (some ⟨B,0,none⟩)] w fun e w'=>YD mb B (addRel m n cs) e w'∧∃ T,AA T w w'∧∀ j∈T,mb≤j:=by
 unfold addRel;by_cases h4:m.rels.length=6
 ·rw [if_pos h4];refine (aX h n _ rfl h4).mono ?_;rintro e w' ⟨rfl,k⟩;exact ⟨rfl,[],k,by simp⟩
 ·rw [if_neg h4];cases ht:m.taken (BB n.g) with
  | true=>
   rw [if_pos rfl];refine (Yh h n _ rfl h4 ht).mono ?_;rintro e w' ⟨rfl,k⟩;exact ⟨rfl,[],k,by simp⟩
  | false=>
   rw [if_neg (by simp)];refine (aW h hmb n cs hcv hcl h4 hok.rels ht).mono ?_;rintro e w' ⟨hd,hT⟩;refine ⟨?_,hT⟩;cases hc:IA m 0 cs with
   | error f=>rw [hc] at hd;exact hd
   | ok ds=>rw [hc] at hd;exact hd
theorem QC {w:World} {mb ib B:Nat} {m:Mean} (h:B5 w mb B m) (hok:DA m) (hmb:mb≤w.heap.size) (a:Dx) (ls:List Dn) {ah al:Option Addr} {ch cl:Nat} {cs:List Value} {X:List Nat} (hhv:w.ownsRow ib 129 3 (.slice ah a.terms.length ch) a.terms.length (De a.terms)) (hlv:w.ownsRow ib 353 5 (.slice al ls.length cl) ls.length cs) (hls:Dk w ib X ls cs) (htl:a.terms.length≤1000000) (htt:∀ t∈a.terms,Bv t.g=true∧Pp t.g) (hll:ls.length≤1000000) (hlt:∀ l∈ls,l.atom.terms.length≤1000000∧∀ t∈l.atom.terms,Bv t.g=true∧Pp t.g):Calls prog 338 #[.agg #[.string (AV a.name.g),.string (BB a.name.g),.int .i64 a.name.line,.slice ah a.terms.length ch,.slice al ls.length cl],.pointer (some ⟨B,0,none⟩)] w fun e w'=>YD mb B (addClause m a ls) e w'∧∃ T,AA T w w'∧∀ j∈T,mb≤j:=by
 by_cases h52:m.clauses.length=52
 ·refine (Ux h a.name ah al a.terms.length ch ls.length cl h52).mono ?_;rintro e w' ⟨rfl,k⟩;exact ⟨by unfold addClause;rw [if_pos h52];rfl,[],k,by simp⟩
 ·exact Uw h hok hmb a ls hhv hlv hls htl htt hll hlt h52
def fK:CM→Prop
 | .dom _ z=>(∃ zs,z.g=.int zs)∧Pp z.g
 | .rel _ cs=>cs.length≤1000000
 | .clause a ls=>(a.terms.length≤1000000∧∀ t∈a.terms,Bv t.g=true∧Pp t.g)∧ls.length≤1000000∧∀ l∈ls,l.atom.terms.length≤1000000∧∀ t∈l.atom.terms,Bv t.g=true∧Pp t.g
theorem Dl.at {w:World} {base:Nat} {X:List Nat} {is:List CM} {vs:List Value} (h:Dl w base X is vs) {i:Nat} {it:CM} (hi:is[i]?=some it):∃ v,vs[i]?=some v∧F4 w base X it v:=by
 induction is generalizing vs i with
 | nil=>simp at hi
 | cons x is ih=>
  obtain ⟨v,rest,h1,h2,h3⟩:=h;subst h1;cases i with
  | zero=>simp at hi;subst hi;exact ⟨v,rfl,h2⟩
  | succ i=>obtain ⟨u,k1,k2⟩:=ih h3 (by simpa using hi);exact ⟨u,by simpa using k1,k2⟩
theorem bX (w:World):B5 (w.alloc (.cells #[.slice none 0 0,.map none,.slice none 0 0,.slice none 0 0,.map none,.slice none 0 0,.slice none 0 0,.slice none 0 0] 207)) w.heap.size w.heap.size E7:=by
 have sv:∀ {W:World} {b:Nat} {X:List Nat},F8 W b X (.slice none 0 0) (.map none) []:=⟨World.ownsRow_nil ..,fun j hj=>by simp [Value.ownBlock] at hj,.inl ⟨rfl,rfl⟩⟩;exact ⟨.slice none 0 0,.map none,.slice none 0 0,.slice none 0 0,.map none,.slice none 0 0,.slice none 0 0,.slice none 0 0,[],[],AK.new w _ 207,AQ _,by simp [Do,Aa,mapL,Value.ownBlock],sv,World.ownsRow_nil ..,sv,World.ownsRow_nil ..,rfl,World.ownsRow_nil ..,rfl,World.ownsRow_nil ..⟩
def kJ (z:Nat) (r:Except I0 Mean) (e:Ending) (w':World):Prop:=match r with
 | .ok m=>e=.returned (.pointer (some ⟨z,0,none⟩))∧B5 w' z z m
 | .error f=>e=Cx f.1 f.2
theorem Mc {w:World} {ib:Nat} {X:List Nat} (is:List CM) {iv:Value} {vs:List Value} (hrow:w.ownsRow ib 273 1 iv is.length vs) (hia:Dl w ib X is vs) (hwf:∀ i∈is,fK i) (hl:is.length≤1000000):Calls prog 134 #[iv] w fun e w'=>kJ w.heap.size (Bh E7 is) e w'∧AA [] w w':=by
 obtain ⟨ai,ci,hy⟩:=Al hrow;subst hy;have kA:=AA.alloc [] w (.cells #[.slice none 0 0,.map none,.slice none 0 0,.slice none 0 0,.map none,.slice none 0 0,.slice none 0 0,.slice none 0 0] 207);have Hm0:=AD (bX w);have Hrow:=AD hrow;have Hia:=AD hia;have Hwf:=AD hwf;generalize hR:Bh E7 is=R;have HR:=AD hR;clear hR hrow hia hwf;go_in
 go_wp2_with fail
 go_loopw [10] (fun x wr=>∃ (i:Nat) (m:Mean),x=.int .i64 i∧i≤is.length∧B5 wr w.heap.size w.heap.size m∧DA m∧AA [] w wr∧w.heap.size≤wr.heap.size∧Bh m (is.drop i)=R) (fun x _=>is.length - (intOf x).toNat)
 case atStart=>exact ⟨0,E7,rfl,by omega,Hm0.out,DA.empty,kA,kA.size,by rw [BV];exact HR.out⟩
 case round=>
  obtain ⟨i,m,rfl,hil,hm,hok,kr,hsz,hres⟩:=hrel;have Hm:=AD hm;clear Hm0 HR kA hm;by_cases hlt:i<is.length
  ·obtain ⟨it,hit⟩:∃ it,is[i]?=some it:=⟨_,AB hlt⟩;have hdi:is.drop i=it :: is.drop (i+1):=by
    rw [BT hlt];congr 1
    rw [AB hlt] at hit;exact Ar hit
   rw [hdi,Bh] at hres;have hrr:=AH Hrow.out kr;obtain ⟨gt,hgt⟩:=DK hrr (by omega);subst hgt;obtain ⟨v,hv,hiv⟩:=Hia.out.at hit;have hcell:=GF hrr hv;have hw1:=Hwf.out it (AE hit);have hiI:(i:Int)<is.length:=(by omega);have hiv2:=hiv.keeps kr;have hgl:gt<wr.heap.size:=(Bd hrr gt rfl).2;have Hgo:Hid (∀ m',D0 m it=.ok m'→DA m'):=AD (fun m' h=>Li hok h);clear hdi hit hiv hrr hv;cases it with
   | dom n z=>
    obtain ⟨⟨zs,hzg⟩,hzw⟩:=hw1;have e:v=_:=hiv2;subst e;have hcall:=AD (Wm Hm.out hok hsz n z hzg hzw);have hres':(match addDom m n z with | .error f=>Except.error f | .ok m'=>Bh m' (is.drop (i+1)))=R:=hres;clear hiv2 hzg hzw hres;cases hr:addDom m n z with
    | error f=>
     rw [hr] at hcall hres';have Hres:=AD hres';clear hres' hr;go_wp2_with fail
     refine hcall.out.mono ?_;rintro e w1 ⟨rfl,T,k1,hT⟩;exact ⟨rfl,by rw [←Hres.out];rfl,kr.trans_new k1 (fun j hj=>.inr (hT j hj))⟩
    | ok m'=>
     rw [hr] at hcall hres';have Hres:=AD hres';have Hok:=AD (Hgo.out m' hr);clear hres' hr;go_wp2_with fail
     refine hcall.out.mono ?_;rintro e w1 ⟨⟨rfl,hm1⟩,T,k1,hT⟩;have Hm1:=AD hm1;have k2:=kr.trans_new k1 (fun j hj=>.inr (hT j hj));clear hm1;go_wp2_with fail
     go_roundw
     ·exact ⟨i+1,m',by simp,by omega,Hm1.out,Hok.out,k2,k2.size,Hres.out⟩
     ·simp only [intOf];omega
   | rel n cs=>
    obtain ⟨cv,hcv,hcr,_⟩:=hiv2;obtain ⟨ca,cc,hcc⟩:=Al hcr;subst hcc;subst hcv;have hcall:=AD (Vw Hm.out hok hsz n cs hcr hw1);have hres':(match addRel m n cs with | .error f=>Except.error f | .ok m'=>Bh m' (is.drop (i+1)))=R:=hres;clear hcr hw1 hres;cases hr:addRel m n cs with
    | error f=>
     rw [hr] at hcall hres';have Hres:=AD hres';clear hres' hr;go_wp2_with fail
     refine hcall.out.mono ?_;rintro e w1 ⟨rfl,T,k1,hT⟩;exact ⟨rfl,by rw [←Hres.out];rfl,kr.trans_new k1 (fun j hj=>.inr (hT j hj))⟩
    | ok m'=>
     rw [hr] at hcall hres';have Hres:=AD hres';have Hok:=AD (Hgo.out m' hr);clear hres' hr;go_wp2_with fail
     refine hcall.out.mono ?_;rintro e w1 ⟨⟨rfl,hm1⟩,T,k1,hT⟩;have Hm1:=AD hm1;have k2:=kr.trans_new k1 (fun j hj=>.inr (hT j hj));clear hm1;go_wp2_with fail
     go_roundw
     ·exact ⟨i+1,m',by simp,by omega,Hm1.out,Hok.out,k2,k2.size,Hres.out⟩
     ·simp only [intOf];omega
   | clause a ls=>
    obtain ⟨hv,lv,cs,hcv,hhr,_,hlr,_,hla⟩:=hiv2;obtain ⟨ha,hc,hcc⟩:=Al hhr;subst hcc;obtain ⟨la,lc,hcc⟩:=Al hlr;subst hcc;subst hcv;have hcall:=AD (QC Hm.out hok hsz a ls hhr hlr hla hw1.1.1 hw1.1.2 hw1.2.1 hw1.2.2);have hres':(match addClause m a ls with | .error f=>Except.error f | .ok m'=>Bh m' (is.drop (i+1)))=R:=hres;clear hhr hlr hla hw1 hres;cases hr:addClause m a ls with
    | error f=>
     rw [hr] at hcall hres';have Hres:=AD hres';clear hres' hr;go_wp2_with fail
     refine hcall.out.mono ?_;rintro e w1 ⟨rfl,T,k1,hT⟩;exact ⟨rfl,by rw [←Hres.out];rfl,kr.trans_new k1 (fun j hj=>.inr (hT j hj))⟩
    | ok m'=>
     rw [hr] at hcall hres';have Hres:=AD hres';have Hok:=AD (Hgo.out m' hr);clear hres' hr;go_wp2_with fail
     refine hcall.out.mono ?_;rintro e w1 ⟨⟨rfl,hm1⟩,T,k1,hT⟩;have Hm1:=AD hm1;have k2:=kr.trans_new k1 (fun j hj=>.inr (hT j hj));clear hm1;go_wp2_with fail
     go_roundw
     ·exact ⟨i+1,m',by simp,by omega,Hm1.out,Hok.out,k2,k2.size,Hres.out⟩
     ·simp only [intOf];omega
  ·have hiI:¬ (i:Int)<is.length:=(by omega);have hdz:is.drop i=[]:=Bq (by omega);rw [hdz,Bh] at hres;have Hres:=AD hres;clear hres hdz;go_wp2_with fail
   go_ret
   refine ⟨?_,kr⟩;rw [←Hres.out];exact ⟨rfl,Hm.out⟩
end
end Go.Proofs.YtgjomknpjigkhaaGreatDoor
