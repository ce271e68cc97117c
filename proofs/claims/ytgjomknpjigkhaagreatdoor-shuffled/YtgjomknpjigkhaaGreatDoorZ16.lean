import Derived.Test.YtgjomknpjigkhaaGreatDoorZ10
namespace Go.Proofs.YtgjomknpjigkhaaGreatDoor
open Go.Proofs.Tryz
set_option maxRecDepth 100000
set_option maxHeartbeats 4000000
section
open Go.RowKit
theorem aX {w:World} {base B:Nat} {m:Mean} (h:B5 w base B m) (n:Tn) (cv:Value) {av:Option Addr} {cn cc:Nat} (hcv:cv=.slice av cn cc) (h4:m.rels.length=6):Calls prog 337 #[.agg #[.string (AV n.g),.string (BB n.g),.int .i64 n.line,cv],.pointer (some ⟨B,0,none⟩)] w fun e w'=>e=Cx 6 n.line∧AA [] w w':=by
 subst hcv;obtain ⟨tD,mD,sz,tN,mN,co,cl,ln,cvs,kvs,hV⟩:=h;have kA:=AA.alloc [] w (.cells #[.string (AV n.g),.string (BB n.g),.int .i64 n.line,(.slice av cn cc)] 325);obtain ⟨aD,cD,hD⟩:=Al hV.names.row;have hlen:=AD (fun (w':World) (k:AA [] w w')=>FC (w:=w') (B:=B) (o:=3) (ns:=m.rels.map Prod.fst) (a:=aD) (c:=cD) (by rw [(hV.cells.keeps k).cell,←hD];rfl));have hBl:=hV.cells.lt;rw [AY,h4] at hlen;have hno:=AD (fun (w:World)=>DT (w:=w) n 6);clear hV;go_in
 go_wp2_with fail
 go_region_law (first
  | (refine A2 rfl 254 _ _ rfl _ func254 (by kernel_rfl) (by kernel_rfl) [.pointer (some ⟨B,3,none⟩)] rfl ?_
     refine (hlen.out _ (kA.trans (AA.drew _ _))).mono ?_
     rintro e w1 ⟨rfl,rfl⟩)
  | (refine Fd rfl 335 _ _ rfl _ func335 (by kernel_rfl) (by kernel_rfl) [Da n,.bool true,.int .i64 6] rfl ?_ ?_
     ·refine (hno.out _).mono ?_;rintro e w1 ⟨rfl,rfl⟩;exact ⟨rfl,rfl,(kA.trans (AA.drew _ _)).trans (AA.alloc [] _ _)⟩
     intro hf))
 all_goals exact (hf.out).elim
theorem Yh {w:World} {base B:Nat} {m:Mean} (h:B5 w base B m) (n:Tn) (cv:Value) {av:Option Addr} {cn cc:Nat} (hcv:cv=.slice av cn cc) (h4:¬ m.rels.length=6) (ht:m.taken (BB n.g)=true):Calls prog 337 #[.agg #[.string (AV n.g),.string (BB n.g),.int .i64 n.line,cv],.pointer (some ⟨B,0,none⟩)] w fun e w'=>e=Cx 7 n.line∧AA [] w w':=by
 subst hcv;obtain ⟨tD,mD,sz,tN,mN,co,cl,ln,cvs,kvs,hV⟩:=h;have kA:=AA.alloc [] w (.cells #[.string (AV n.g),.string (BB n.g),.int .i64 n.line,(.slice av cn cc)] 325);have hA:=AK.new w #[.string (AV n.g),.string (BB n.g),.int .i64 n.line,(.slice av cn cc)] 325;obtain ⟨aD,cD,hD⟩:=Al hV.names.row;have hlen:=AD (fun (w':World) (k:AA [] w w')=>FC (w:=w') (B:=B) (o:=3) (ns:=m.rels.map Prod.fst) (a:=aD) (c:=cD) (by rw [(hV.cells.keeps k).cell,←hD];rfl));have htk:=AD (fun (w':World) (k:AA [] w w')=>HW (hV.cells.keeps k) rfl rfl ((hV.keeps k).doms) ((hV.keeps k).names) (BB n.g));rw [B7,B7] at htk;change (_ || _)=true at ht;have ht':((CP m.doms (BB n.g)).isSome || (CP m.rels (BB n.g)).isSome)=true:=ht;rw [ht'] at htk;have hBl:=hV.cells.lt;rw [AY] at hlen;have h4I:(((m.rels.length:Nat):Int) == 6)=false:=by rw [beq_eq_false_iff_ne];omega
 have hno:=AD (fun (w:World)=>DZ (w:=w) n 6);have hyes:=AD (fun (w:World)=>DT (w:=w) n 7);clear hV ht ht';go_in
 go_upto_region 1 with fail
 go_cut [] (fun wc=>AA [] w wc∧AK wc w.heap.size #[.string (AV n.g),.string (BB n.g),.int .i64 n.line,(.slice av cn cc)])
 case first=>
  go_region_law (first
   | (refine A2 rfl 254 _ _ rfl _ func254 (by kernel_rfl) (by kernel_rfl) [.pointer (some ⟨B,3,none⟩)] rfl ?_
      refine (hlen.out _ (kA.trans (AA.drew _ _))).mono ?_
      rintro e w1 ⟨rfl,rfl⟩)
   | (refine A2 rfl 335 _ _ rfl _ func335 (by kernel_rfl) (by kernel_rfl) [Da n,.bool false,.int .i64 6] rfl ?_
      refine (hno.out _).mono ?_
      rintro e w1 ⟨rfl,rfl⟩))
  all_goals
   go_wp2_with fail
   go_meet
   exact ⟨(kA.trans (AA.drew _ _)).trans (AA.alloc [] _ _),(hA.keeps (AA.drew [] _)).keeps (AA.alloc [] _ _)⟩
 case rest=>
  obtain ⟨k1,hA1⟩:=hcut;have d0:=hA1.cell 0;have d1:=hA1.cell 1;have d2:=hA1.cell 2;go_wp2_with fail
  go_region_law (first
   | (refine A2 rfl 336 _ _ rfl _ func336 (by kernel_rfl) (by kernel_rfl) [.pointer (some ⟨B,0,none⟩),.string (BB n.g)] rfl ?_
      refine (htk.out _ (k1.trans (AA.drew _ _))).mono ?_
      rintro e w1 ⟨rfl,rfl⟩)
   | (refine Fd rfl 335 _ _ rfl _ func335 (by kernel_rfl) (by kernel_rfl) [Da n,.bool true,.int .i64 7] rfl ?_ ?_
      ·refine (hyes.out _).mono ?_;rintro e w1 ⟨rfl,rfl⟩;exact ⟨rfl,rfl,(k1.trans (AA.drew _ _)).trans (AA.alloc [] _ _)⟩
      intro hf))
  all_goals exact (hf.out).elim
def J8 (B:Nat) (tD mD sz:Value):List Nat:=[B]++Aa tD++mapL mD++Aa sz
theorem KE (B:Nat) (tD mD sz tN mN co cl ln:Value):Do B tD mD sz tN mN co cl ln=J8 B tD mD sz++(Aa tN++mapL mN++Aa co)++(Aa cl++Aa ln):=by simp [Do,J8]
theorem IG.addRel {w w':World} {base B:Nat} {m:Mean} {tD mD sz tN mN co cl ln tN' mN' co' cv:Value} {cvs kvs:List Value} {T:List Nat} (h:IG w base B m tD mD sz tN mN co cl ln cvs kvs) {s:ByteArray} {ds:List Nat} (k:AA T w w') (hT:∀ j∈T,j∈[B]++(Aa tN++mapL mN++Aa co)∨w.heap.size≤j)
  (hc:AK w' B #[tD,mD,sz,tN',mN',co',cl,ln]) (hs:F8 w' base [B] tN' mN' (m.rels.map Prod.fst++[s])) (hz:w'.ownsRow base 40 1 co' (m.rels.length+1) (cvs++[cv])) (hcv:w'.ownsRow base 3 1 cv ds.length (Ft ds)) (hcvA:∀ j∈Aa cv,j∉Do B tD mD sz tN' mN' co' cl ln)
  (hn:∀ j∈Aa tN'++mapL mN'++Aa co',j∈Aa tN++mapL mN++Aa co∨w.heap.size≤j) (hd:(Aa tN'++mapL mN'++Aa co').Nodup):B5 w' base B { m with rels:=m.rels++[(s,ds)] }:=by
 have hf:=h.foot;rw [KE] at hf;have hlt:=h.foot_lt;rw [KE] at hlt;have hAp:=Cn hf;have hTA:∀ j∈Aa tD++mapL mD++Aa sz,j∉T:=fun j hj hjT=>by
  have hjH:j∈J8 B tD mD sz:=by simp only [J8,Ab];exact AT _ (by simpa using hj)
  rcases hT j hjT with h' | h'
  ·rcases AC.1 h' with h' | h'
   ·have e:j=B:=(by simpa using h');subst e;have h2:([j]++(Aa tD++mapL mD++Aa sz)++HZ tN mN co cl ln).Nodup:=by have:=h.foot;rw [KG] at this;exact this
    exact ((Cn h2).1 j hj).1 (by simp)
   ·exact (hAp.1 j h').1 hjH
  ·have:=(hlt j (AN _ (AN _ hjH))).2;omega
 have hTR:∀ j∈Aa cl++Aa ln,j∉T:=fun j hj hjT=>by
  rcases hT j hjT with h' | h'
  ·rcases AC.1 h' with h' | h'
   ·have e:j=B:=(by simpa using h');exact (hAp.2 j hj).1 (by rw [e];simp [J8])
   ·exact (hAp.2 j hj).2 h'
  ·have:=(hlt j (AT _ hj)).2;omega
 have hfN:(Do B tD mD sz tN' mN' co' cl ln).Nodup:=by
  rw [KE];refine Mk (n:=w.heap.size) hf (fun j hj=>?_) hd hn;rcases AC.1 hj with h' | h'
  ·exact (hlt j (AN _ (AN _ h'))).2
  ·exact (hlt j (AT _ h')).2
 have hXT:∀ j∈T,j∈Do B tD mD sz tN mN co cl ln∨j<base∨w.heap.size≤j:=fun j hj=>by
  rcases hT j hj with h' | h'
  ·left;rw [KE];rcases AC.1 h' with q | q
   ·have e:j=B:=(by simpa using q);exact AN _ (AN _ (by rw [e];simp [J8]))
   ·exact AN _ (AT _ q)
  ·exact .inr (.inr h')
 have hY:∀ j∈Do B tD mD sz tN' mN' co' cl ln++Do B tD mD sz tN mN co cl ln,j∈Do B tD mD sz tN mN co cl ln∨w.heap.size≤j:=fun j hj=>by
  rcases AC.1 hj with hj | hj
  ·rw [KE] at hj ⊢;rcases AC.1 hj with h' | h'
   ·rcases AC.1 h' with h'' | h''
    ·exact .inl (AN _ (AN _ h''))
    ·rcases hn j h'' with q | q
     ·exact .inl (AN _ (AT _ q))
     ·exact .inr q
   ·exact .inl (AT _ h')
  ·exact .inl hj
 have own:∀ {e:TypeId} {size n:Nat} {u:Value} {xs:List Value},w.ownsRow base e size u n xs→(∀ j∈Aa u,j∉T)→w'.ownsRow base e size u n xs:=fun h hr=>AH h k (fun j hj=>hr j (by simp [Aa,hj]));refine ⟨tD,mD,sz,tN',mN',co',cl,ln,cvs++[cv],kvs,hc,h.low,hfN,h.doms.kept k (fun j hj=>hTA j (by simp [hj])) (fun j hj=>hTA j (by simp [hj])),own h.sizes (fun j hj=>hTA j (by simp [hj])),by rw [Am];exact hs,by rw [AJ,Ah];exact hz,?_,own h.cls (fun j hj=>hTR j (by simp [hj])),?_,own h.lines (fun j hj=>hTR j (by simp [hj]))⟩
 ·refine Ey.snoc ?_ hcv hcvA
  exact (((h.colsA.apart hY).keeps k (fun j hj=>by
   rcases hXT j hj with h' | h'
   ·exact .inl (AT _ h')
   ·exact .inr h'))).apart (fun j hj=>.inl (AN _ hj))
 ·exact (((h.clsA.apart hY).keeps k (fun j hj=>by
   rcases hXT j hj with h' | h'
   ·exact .inl (AT _ h')
   ·exact .inr h'))).apart (fun j hj=>.inl (AN _ hj))
theorem Rd {w:World} {b g n c:Nat} {ts:List Tn} (h:w.ownsRow b 129 3 (.slice (some ⟨g,0,none⟩) n c) n (De ts)):M3 w g 0 ts:=by
 obtain ⟨_,⟨h1,_⟩ | ⟨g',cap,cur,hv,hb,hg,hn,hc,hs,htk⟩⟩:=h
 ·cases h1
 ·cases hv;refine ⟨cur,⟨_,hg⟩,fun j t hj=>?_⟩;have key:∀ (ts:List Tn) (j:Nat) (t:Tn),ts[j]?=some t→∀ q,q<3→(De ts)[j * 3+q]?=(Me t)[q]?:=by
   intro ts;induction ts with
   | nil=>intro j t hj;simp at hj
   | cons x ts ih=>
    intro j t hj q hq;have e:De (x :: ts)=Me x++De ts:=(by simp [De]);rw [e];cases j with
    | zero=>
     simp at hj;subst hj;rw [D3,Ag,Az (by simpa [Me] using hq)]
    | succ j=>
     rw [Av (by simp [Me];omega)];have:(j+1) * 3+q - (Me x).length=j * 3+q:=by simp [Me];omega
     rw [this];exact ih j t (by simpa using hj) q hq
  have cell:∀ q,q<3→cur[j * 3+q]?=(Me t)[q]?:=fun q hq=>by
   have h1:=key ts j t hj q hq;rw [←htk,List.getElem?_take] at h1;split at h1
   ·rw [←h1];simp
   ·have h2:(Me t)[q]?≠none:=by
     match q,hq with
     | 0,_=>simp [Me]
     | 1,_=>simp [Me]
     | 2,_=>simp [Me]
    exact absurd h1.symm h2
  exact ⟨by rw [Ag];exact cell 0 (by omega),by rw [Ag];exact cell 1 (by omega),by rw [Ag];exact cell 2 (by omega)⟩
theorem DK {w:World} {base:Nat} {e:TypeId} {size n c:Nat} {a:Option Addr} {xs:List Value} (h:w.ownsRow base e size (.slice a n c) n xs) (hn:0<n):∃ g,a=some ⟨g,0,none⟩:=by
 rcases h.2 with ⟨h1,h2⟩ | ⟨g,cap,cur,h1,_⟩
 ·omega
 ·cases h1;exact ⟨g,rfl⟩
structure Lj (w:World) (base S B:Nat) (sc:Ba) (tV mV kd:Value):Prop where
 cells:AK w S #[.pointer (some ⟨B,0,none⟩),tV,mV,kd]
 low:base≤S
 foot:([S]++(Aa tV++mapL mV)++Aa kd).Nodup
 vars:F8 w base [S] tV mV (sc.map Prod.fst)
 kinds:w.ownsRow base 3 1 kd sc.length (Ft (sc.map Prod.snd))
def Gl (w:World) (base S B:Nat) (sc:Ba):Prop:=∃ tV mV kd,Lj w base S B sc tV mV kd
theorem Lj.foot_lt {w:World} {base S B:Nat} {sc:Ba} {tV mV kd:Value} (h:Lj w base S B sc tV mV kd):∀ j∈[S]++(Aa tV++mapL mV)++Aa kd,base≤j∧j<w.heap.size:=fun j hj=>by
 simp only [AC,AF] at hj;rcases hj with (hj | hj | hj) | hj
 ·subst hj;exact ⟨h.low,h.cells.lt⟩
 ·exact DJ h.vars.row j hj
 ·exact H6 h.vars j hj
 ·exact DJ h.kinds j hj
theorem Lj.keeps {w w':World} {base S B:Nat} {sc:Ba} {tV mV kd:Value} {T:List Nat} (h:Lj w base S B sc tV mV kd) (k:AA T w w') (hT:∀ j∈T,j<base∨w.heap.size≤j:=by simp):Lj w' base S B sc tV mV kd:=by
 have hT':∀ j,base≤j∧j<w.heap.size→j∉T:=fun j hj hjT=>by have:=hT j hjT;omega
 exact ⟨h.cells.keeps k (hT' S ⟨h.low,h.cells.lt⟩),h.low,h.foot,h.vars.kept k (fun j hj=>hT' j (DJ h.vars.row j hj)) (fun j hj=>hT' j (H6 h.vars j hj)),AH h.kinds k (fun j hj=>hT' j (Bd h.kinds j hj))⟩
theorem lR {w:World} {base S B:Nat} {sc:Ba} (h:Gl w base S B sc) (t:Tn) (d p:Nat) (hp:CP sc (BB t.g)=some p) {q:ByteArray×Nat} (hq:sc[p]?=some q) (hl:sc.length≤4) (hd:q.2=d):Calls prog 341 #[.pointer (some ⟨S,0,none⟩),Da t,.int .i64 (d:Int)] w fun e w'=>e=.returned (.int .i64 (p:Int))∧AA [] w w':=by
 obtain ⟨tV,mV,kd,hV⟩:=h;have hpl:=Ej hp;have kA:=AA.alloc [] w (.cells #[.string (AV t.g),.string (BB t.g),.int .i64 t.line] 129);have hplc:=AD (fun (w':World) (k:AA [] w w')=>EP (B:=S) (o:=1) ((hV.keeps k).vars) (by rw [(hV.cells.keeps k).cell];rfl) (BB t.g));rw [B7,hp] at hplc;obtain ⟨ak,ck,hk⟩:=Al hV.kinds;subst hk;obtain ⟨gk,hgk⟩:=DK hV.kinds (by omega);subst hgk;have hkc:∀ {W:World},AA [] w W→W.cell? ⟨S,3,none⟩=some (.slice (some ⟨gk,0,none⟩) sc.length ck)∧W.cell? ⟨gk,p,none⟩=some (.int .i64 (q.2:Int)):=fun k=>by
  refine ⟨by rw [(hV.cells.keeps k).cell];rfl,GF (AH hV.kinds k) ?_⟩;simp [Ft,hq]
 have hSl:=hV.cells.lt;have hplI:(p:Int)<sc.length:=by omega
 have hgl:gk<w.heap.size:=(Bd hV.kinds gk rfl).2;obtain ⟨x1,x2⟩:=hkc (kA.trans (AA.drew _ _));obtain ⟨x3,x4⟩:=hkc ((kA.trans (AA.drew _ _)).trans (AA.drew _ _));have hqd:(((q.2:Nat):Int) != (d:Int))=false:=by rw [hd];simp
 have hno:=AD (fun (w:World)=>DZ (w:=w) t 11);clear hV hkc hp hq hpl hd;generalize sc.length=L at *;unfold Da;go_in
 go_wp2_with fail
 go_region_law (first
  | (refine A2 rfl 77 _ _ rfl _ func77 (by kernel_rfl) (by kernel_rfl) [.pointer (some ⟨S,1,none⟩),.string (BB t.g)] rfl ?_
     refine (hplc.out _ (kA.trans (AA.drew _ _))).mono ?_
     rintro e w4 ⟨rfl,rfl⟩))
 go_wp2_with fail
 go_region_law (first
  | (refine A2 rfl 335 _ _ rfl _ func335 (by kernel_rfl) (by kernel_rfl) [Da t,.bool false,.int .i64 11] rfl ?_
     refine (hno.out _).mono ?_
     rintro e w1 ⟨rfl,rfl⟩))
 all_goals
  go_wp2_with fail
  go_ret
  exact ⟨rfl,((kA.trans (AA.drew _ _)).trans (AA.drew _ _)).trans (AA.alloc [] _ _)⟩
theorem fU {w:World} {base S B:Nat} {sc:Ba} (h:Gl w base S B sc) (t:Tn) (d p:Nat) (hp:CP sc (BB t.g)=some p) {q:ByteArray×Nat} (hq:sc[p]?=some q) (hl:sc.length≤4) (hd:q.2≠d):Calls prog 341 #[.pointer (some ⟨S,0,none⟩),Da t,.int .i64 (d:Int)] w fun e w'=>e=Cx 11 t.line∧AA [] w w':=by
 obtain ⟨tV,mV,kd,hV⟩:=h;have hpl:=Ej hp;have kA:=AA.alloc [] w (.cells #[.string (AV t.g),.string (BB t.g),.int .i64 t.line] 129);have hplc:=AD (fun (w':World) (k:AA [] w w')=>EP (B:=S) (o:=1) ((hV.keeps k).vars) (by rw [(hV.cells.keeps k).cell];rfl) (BB t.g));rw [B7,hp] at hplc;obtain ⟨ak,ck,hk⟩:=Al hV.kinds;subst hk;obtain ⟨gk,hgk⟩:=DK hV.kinds (by omega);subst hgk;have hkc:∀ {W:World},AA [] w W→W.cell? ⟨S,3,none⟩=some (.slice (some ⟨gk,0,none⟩) sc.length ck)∧W.cell? ⟨gk,p,none⟩=some (.int .i64 (q.2:Int)):=fun k=>by
  refine ⟨by rw [(hV.cells.keeps k).cell];rfl,GF (AH hV.kinds k) ?_⟩;simp [Ft,hq]
 have hSl:=hV.cells.lt;have hplI:(p:Int)<sc.length:=by omega
 have hgl:gk<w.heap.size:=(Bd hV.kinds gk rfl).2;obtain ⟨x1,x2⟩:=hkc (kA.trans (AA.drew _ _));obtain ⟨x3,x4⟩:=hkc ((kA.trans (AA.drew _ _)).trans (AA.drew _ _));have hqd:(((q.2:Nat):Int) != (d:Int))=true:=by rw [bne_iff_ne];omega
 have hyes:=AD (fun (w:World)=>DT (w:=w) t 11);clear hV hkc hp hq hpl hd;generalize sc.length=L at *;unfold Da;go_in
 go_wp2_with fail
 go_region_law (first
  | (refine A2 rfl 77 _ _ rfl _ func77 (by kernel_rfl) (by kernel_rfl) [.pointer (some ⟨S,1,none⟩),.string (BB t.g)] rfl ?_
     refine (hplc.out _ (kA.trans (AA.drew _ _))).mono ?_
     rintro e w4 ⟨rfl,rfl⟩))
 go_wp2_with fail
 go_region_law (first
  | (refine Fd rfl 335 _ _ rfl _ func335 (by kernel_rfl) (by kernel_rfl) [Da t,.bool true,.int .i64 11] rfl ?_ ?_
     ·refine (hyes.out _).mono ?_;rintro e w1 ⟨rfl,rfl⟩;exact ⟨rfl,rfl,((kA.trans (AA.drew _ _)).trans (AA.drew _ _)).trans (AA.alloc [] _ _)⟩
     intro hf))
 all_goals exact (hf.out).elim
def FM (w:World) (base S B:Nat) (sc:Ba) (F:Nat→Prop):Prop:=∃ tV mV kd,Lj w base S B sc tV mV kd∧∀ j∈[S]++(Aa tV++mapL mV)++Aa kd,F j
theorem FM.to {w:World} {base S B:Nat} {sc:Ba} {F:Nat→Prop} (h:FM w base S B sc F):Gl w base S B sc:=by
 obtain ⟨a,b,c,h,_⟩:=h;exact ⟨a,b,c,h⟩
theorem FM.keeps {w w':World} {base S B:Nat} {sc:Ba} {F:Nat→Prop} {T:List Nat} (h:FM w base S B sc F) (k:AA T w w') (hT:∀ j∈T,¬ F j:=by simp):FM w' base S B sc F:=by
 obtain ⟨a,b,c,h,hn⟩:=h;have hT':∀ j∈[S]++(Aa a++mapL b)++Aa c,j∉T:=fun j hj hjT=>hT j hjT (hn j hj);exact ⟨a,b,c,⟨h.cells.keeps k (hT' S (by simp)),h.low,h.foot,h.vars.kept k (fun j hj=>hT' j (by simp [hj])) (fun j hj=>hT' j (by simp [hj])),AH h.kinds k (fun j hj=>hT' j (by simp [Aa,hj]))⟩,hn⟩
theorem FM.mono {w:World} {base S B:Nat} {sc:Ba} {F G:Nat→Prop} (h:FM w base S B sc F) (hG:∀ j,base≤j→j<w.heap.size→F j→G j):FM w base S B sc G:=by
 obtain ⟨a,b,c,h,hn⟩:=h;exact ⟨a,b,c,h,fun j hj=>hG j (h.foot_lt j hj).1 (h.foot_lt j hj).2 (hn j hj)⟩
theorem Zs {w:World} {base S B:Nat} {sc:Ba} (h:Gl w base S B sc) (t:Tn) (d:Nat) (hp:CP sc (BB t.g)=none) (h4:sc.length=4):Calls prog 341 #[.pointer (some ⟨S,0,none⟩),Da t,.int .i64 (d:Int)] w fun e w'=>e=Cx 6 t.line∧AA [] w w':=by
 obtain ⟨tV,mV,kd,hV⟩:=h;have kA:=AA.alloc [] w (.cells #[.string (AV t.g),.string (BB t.g),.int .i64 t.line] 129);have hplc:=AD (fun (w':World) (k:AA [] w w')=>EP (B:=S) (o:=1) ((hV.keeps k).vars) (by rw [(hV.cells.keeps k).cell];rfl) (BB t.g));rw [B7,hp] at hplc;obtain ⟨aD,cD,hD⟩:=Al hV.vars.row;have hlen:=AD (fun (w':World) (k:AA [] w w')=>FC (w:=w') (B:=S) (o:=1) (ns:=sc.map Prod.fst) (a:=aD) (c:=cD) (by rw [(hV.cells.keeps k).cell,←hD];rfl));rw [AY,h4] at hlen;have hSl:=hV.cells.lt;have hyes:=AD (fun (w:World)=>DT (w:=w) t 6);clear hV hp h4;unfold Da;go_in
 go_wp2_with fail
 go_region_law (first
  | (refine A2 rfl 77 _ _ rfl _ func77 (by kernel_rfl) (by kernel_rfl) [.pointer (some ⟨S,1,none⟩),.string (BB t.g)] rfl ?_
     refine (hplc.out _ (kA.trans (AA.drew _ _))).mono ?_
     rintro e w4 ⟨rfl,rfl⟩))
 go_wp2_with fail
 go_region_law (first
  | (refine A2 rfl 254 _ _ rfl _ func254 (by kernel_rfl) (by kernel_rfl) [.pointer (some ⟨S,1,none⟩)] rfl ?_
     refine (hlen.out _ ((kA.trans (AA.drew _ _)).trans (AA.drew _ _))).mono ?_
     rintro e w1 ⟨rfl,rfl⟩)
  | (refine Fd rfl 335 _ _ rfl _ func335 (by kernel_rfl) (by kernel_rfl) [Da t,.bool true,.int .i64 6] rfl ?_ ?_
     ·refine (hyes.out _).mono ?_;rintro e w1 ⟨rfl,rfl⟩;exact ⟨rfl,rfl,((kA.trans (AA.drew _ _)).trans (AA.drew _ _)).trans (AA.alloc [] _ _)⟩
     intro hf))
 all_goals exact (hf.out).elim
set_option maxHeartbeats 8000000 in
theorem fT {w:World} {base S B:Nat} {sc:Ba} {F:Nat→Prop} (h:FM w base S B sc F) (hbase:base≤w.heap.size) (t:Tn) (d:Nat) (hp:CP sc (BB t.g)=none) (h4:¬ sc.length=4) (h4l:sc.length≤4):Calls prog 341 #[.pointer (some ⟨S,0,none⟩),Da t,.int .i64 (d:Int)] w fun e w'=>e=.returned (.int .i64 (sc.length:Int))∧FM w' base S B (sc++[(BB t.g,d)]) (fun j=>F j∨w.heap.size≤j)∧∃ T,AA T w w'∧∀ j∈T,base≤j∧F j:=by
 obtain ⟨i0,hi0,hz0,hz1,hz2⟩:=info_parts Mu;obtain ⟨tV,mV,kd,hV,hlim⟩:=h;have Hlim:=AD hlim;clear hlim;have kA:=AA.alloc [] w (.cells #[.string (AV t.g),.string (BB t.g),.int .i64 t.line] 129);have hA:=AK.new w #[.string (AV t.g),.string (BB t.g),.int .i64 t.line] 129;have hplc:=AD (fun (w':World) (k:AA [] w w')=>EP (B:=S) (o:=1) ((hV.keeps k).vars) (by rw [(hV.cells.keeps k).cell];rfl) (BB t.g));rw [B7,hp] at hplc;obtain ⟨aD,cD,hD⟩:=Al hV.vars.row;have hlen:=AD (fun (w':World) (k:AA [] w w')=>FC (w:=w') (B:=S) (o:=1) (ns:=sc.map Prod.fst) (a:=aD) (c:=cD) (by rw [(hV.cells.keeps k).cell,←hD];rfl));rw [AY] at hlen;have h4I:(((sc.length:Nat):Int) == 4)=false:=by rw [beq_eq_false_iff_ne];omega
 have hSl:=hV.cells.lt;have hno:=AD (fun (w:World)=>DZ (w:=w) t 6);have hpl:Dp (sc.map Prod.fst) (BB t.g)=none:=by rw [B7];exact hp
 have HV:=AD hV;have Hpl:=AD hpl;clear hV hp hpl;unfold Da;go_in
 go_wp2_with fail
 go_region_law (first
  | (refine A2 rfl 77 _ _ rfl _ func77 (by kernel_rfl) (by kernel_rfl) [.pointer (some ⟨S,1,none⟩),.string (BB t.g)] rfl ?_
     refine (hplc.out _ (kA.trans (AA.drew _ _))).mono ?_
     rintro e w4 ⟨rfl,rfl⟩))
 go_upto_region 5 with fail
 go_cut [] (fun wc=>AA [] w wc∧AK wc w.heap.size #[.string (AV t.g),.string (BB t.g),.int .i64 t.line])
 case first=>
  go_region_law (first
   | (refine A2 rfl 254 _ _ rfl _ func254 (by kernel_rfl) (by kernel_rfl) [.pointer (some ⟨S,1,none⟩)] rfl ?_
      refine (hlen.out _ ((kA.trans (AA.drew _ _)).trans (AA.drew _ _))).mono ?_
      rintro e w1 ⟨rfl,rfl⟩)
   | (refine A2 rfl 335 _ _ rfl _ func335 (by kernel_rfl) (by kernel_rfl) [Da t,.bool false,.int .i64 6] rfl ?_
      refine (hno.out _).mono ?_
      rintro e w1 ⟨rfl,rfl⟩))
  all_goals
   go_wp2_with fail
   go_meet
   exact ⟨((kA.trans (AA.drew _ _)).trans (AA.drew _ _)).trans (AA.alloc [] _ _),((hA.keeps (AA.drew [] _)).keeps (AA.drew [] _)).keeps (AA.alloc [] _ _)⟩
 case rest=>
  obtain ⟨k1,hA1⟩:=hcut;have hV1:=HV.out.keeps k1;obtain ⟨aS,cS,hS⟩:=Al hV1.kinds;subst hS;have d3:=hV1.cells.cell 3;have hS1:=hV1.cells.lt;have kA4:=AA.alloc [] wc (.cells #[.int .i64 (d:Int)] 3);have ownB:=AH hV1.kinds kA4;have hs1:=k1.size;have hSk:S∉Aa (.slice aS sc.length cS):=fun hx=>by
   have h2:=hV1.foot;exact ((Cn h2).2 S hx).1 (by simp)
  have hfl:=hV1.foot_lt;clear hplc hlen hno;go_wp2_with (at_builtin;refine wpList_append_own_at _ rfl _ _ 40 rfl base 3 i0 (.int .i64 0) 1 8 underlying40 hi0 hz0 hz1 hz2 rfl (by decide) _ sc.length (Ft (sc.map Prod.snd)) rfl ownB ⟨wc.heap.size,0,none⟩ 1 1 [.int .i64 (d:Int)] rfl (by simp) OA (by simp [Value.oneCell']) (by unfold maxLen;omega) (by omega) (by rw [AX];omega) ?_)
  intro v' W2 own4 grow4 nil4 at4;have k4:=grownBy_keeps' grow4 (Aa (.slice aS sc.length cS)) (fun r e=>.inl (by simp [Aa,e]));obtain ⟨gg,cap,rfl⟩:=EL own4;have hC4:=(hV1.cells.keeps kA4).keeps k4 hSk;have e3:=hC4.cell 3;have f3:=hC4.frozen 3;have ks:=AA.setCell W2 ⟨S,3,none⟩ (.slice (some ⟨gg,0,none⟩) (sc.length+1) cap);have hC5:AK (W2.setCell ⟨S,3,none⟩ (.slice (some ⟨gg,0,none⟩) (sc.length+1) cap)) S #[.pointer (some ⟨B,0,none⟩),tV,mV,.slice (some ⟨gg,0,none⟩) (sc.length+1) cap]:=hC4.setCell 3 _;have hgg:gg∈Aa (.slice aS sc.length cS)∨gg=wc.heap.size+1:=by
   rcases at4 with h | h
   ·left;simp only [Aa];rw [←h];simp [Value.ownBlock]
   ·right;simpa [Value.ownBlock] using h
  have hggS:gg≠S:=by
   rcases hgg with h | h
   ·rintro rfl;exact hSk h
   ·omega
  have k5:AA (Aa (.slice aS sc.length cS)++[S]) wc (W2.setCell ⟨S,3,none⟩ (.slice (some ⟨gg,0,none⟩) (sc.length+1) cap)):=((kA4.mono (by simp)).trans (k4.mono (fun i hi=>by simp [hi]))).trans (ks.mono (by simp));have hap:=Cn hV1.foot
  have hset5:=hV1.vars.kept k5 (fun j hj hx=>by
   rcases AC.1 hx with h | h
   ·exact (hap.2 j h).2 (by simp [hj])
   ·exact hV1.vars.rowA j (by simpa [Aa] using hj) h) (fun j hj hx=>by
   rcases AC.1 hx with h | h
   ·exact (hap.2 j h).2 (by simp [hj])
   ·exact (hap.1 j (by simp [hj])).1 h)
  have own5:=AH own4 ks (fun j hj hx=>by
   have e1:j=S:=(by simpa using hx);have e2:gg=j:=(by simpa [Value.ownBlock] using hj)
   exact hggS (by rw [e2,e1]))
  have hA5:=hA1.keeps k5 (fun hx=>by
   rcases AC.1 hx with h | h
   ·have:=(Bd HV.out.kinds w.heap.size (by simpa [Aa] using h)).2;omega
   ·have e:w.heap.size=S:=(by simpa using h);omega)
  have hs5:=k5.size;have H1:=AD hC5;have H2:=AD k5;have H3:=AD hset5;have H4:=AD own5;have H5:=AD hA5;clear hC5 k5 hset5 own5 hA5 own4 grow4 nil4 at4 k4 hC4 ks ownB kA4 d3;go_upto_region 7 with fail
  have hC5:=H1.out;have k5:=H2.out;have hset5:=H3.out;have own5:=H4.out;have hA5:=H5.out;clear H1 H2 H3 H4 H5 e3 f3;generalize hW:W2.setCell ⟨S,3,none⟩ (.slice (some ⟨gg,0,none⟩) (sc.length+1) cap)=W5 at *;clear hW;have kd5:=AA.drew [] W5;have hadd:=AD (Kk (w:=W5.drew) (s:=BB t.g) (hC5.keeps kd5) (o:=1) rfl rfl (X:=[S]) (by simp) (fun j hj=>by have e:j=S:=(by simpa using hj);have:=(hC5.keeps kd5).lt;omega) (by have:=kd5.size;omega) (hset5.kept kd5 (by simp) (by simp)) (by rw [AY];omega) Hpl.out);rw [AY] at hadd;have c1:=hA5.cell 1;have hS5:=hC5.lt;have HC5:=AD hC5;have Hk5:=AD k5;have Hset5:=AD hset5;have Hown5:=AD own5;clear hC5 k5 hset5 own5 hA5
  go_region_law (first
   | (refine A2 rfl 72 _ _ rfl _ func72 (by kernel_rfl) (by kernel_rfl) [.pointer (some ⟨S,1,none⟩),.string (BB t.g)] rfl ?_
      refine hadd.out.mono ?_
      rintro e w6 ⟨rfl,hAd⟩))
  go_wp2_with fail
  go_ret
  obtain ⟨tv',mv',hcells,hset,hown',hmap'⟩:=hAd.set;obtain ⟨T,kT,hT⟩:=hAd.keep;have hcells':AK w6 S #[.pointer (some ⟨B,0,none⟩),tv',mv',.slice (some ⟨gg,0,none⟩) (sc.length+1) cap]:=hcells;have hT':∀ j∈T,j∈[S]++(Aa tV++mapL mV):=fun j hj=>by
   rcases hT j hj with h | h | h
   ·simp [h]
   ·have h2:tV.ownBlock=some j:=h;simp [Aa,h2]
   ·have h2:mV=.map (some j):=h;simp [mapL,h2]
  have hfw:∀ j∈[S]++(Aa tV++mapL mV)++Aa (.slice aS sc.length cS),base≤j∧j<wc.heap.size:=hfl;have hap:=Cn hV1.foot;have hggT:gg∉T:=fun hx=>by
   have h1:=hT' gg hx;rcases hgg with h | h
   ·rcases AC.1 h1 with q | q
    ·exact (hap.2 gg h).1 q
    ·exact (hap.2 gg h).2 q
   ·have:=(hfw gg (AN _ h1)).2;omega
  have kd5':AA T W5 w6:=(kd5.mono (by simp)).trans kT;have hkind:=AH Hown5.out kd5' (fun j hj=>by have e:gg=j:=(by simpa [Value.ownBlock] using hj);rw [←e];exact hggT);have htl:∀ j∈Aa tv',j∈Aa tV∨W5.heap.size≤j:=fun j hj=>by
   rcases hown' j (by simpa [Aa] using hj) with h | h
   ·left;have h2:tV.ownBlock=some j:=h;simp [Aa,h2]
   ·exact .inr h
  have hml:∀ j∈mapL mv',j∈mapL mV∨W5.heap.size≤j:=fun j hj=>by
   have e:mv' = .map (some j):=by
    unfold mapL at hj;split at hj
    ·have e:j=_:=(by simpa using hj);rw [e]
    ·cases hj
   rcases hmap' j e with h | h
   ·left;have h2:mV=.map (some j):=h;simp [mapL,h2]
   ·exact .inr h
  have hgl:gg<W5.heap.size:=(Bd Hown5.out gg rfl).2;have hgt:∀ j∈Aa tv'++mapL mv',j≠gg:=fun j hj e=>by
   subst e;have hin:j∈Aa tV++mapL mV:=by
    rcases AC.1 hj with h | h
    ·rcases htl j h with q | q
     ·simp [q]
     ·omega
    ·rcases hml j h with q | q
     ·simp [q]
     ·omega
   rcases hgg with h | h
   ·exact (hap.2 j h).2 hin
   ·have:=(hfw j (by simp at hin ⊢;rcases hin with q | q <;> simp [q])).2;omega
  refine ⟨rfl,⟨tv',mv',.slice (some ⟨gg,0,none⟩) (sc.length+1) cap,⟨hcells',HV.out.low,?_,by rw [Am];exact hset,by rw [AJ,Ah,Am,Ft,Am];exact hkind⟩,fun j hj=>?_⟩,Aa (.slice aS sc.length cS)++[S]++T,((k1.mono (by simp)).trans (Hk5.out.mono (fun i hi=>AN _ hi))).trans (kd5'.mono (fun i hi=>AT _ hi)),fun j hj=>?_⟩
  ·rw [BJ,BJ,BJ];refine ⟨⟨by simp,⟨GE _,LV _,fun a ha b hb e=>?_⟩,fun a ha b hb e=>?_⟩,GE _,fun a ha b hb e=>?_⟩
   ·subst e;rcases hset.map with ⟨q,_⟩ | ⟨r,q,_,_,_,q5⟩
    ·rw [q] at hb;simp [mapL] at hb
    ·rw [q] at hb;simp [mapL] at hb;subst hb;exact q5 (by simpa [Aa] using ha)
   ·subst e;rcases AC.1 hb with h | h
    ·exact hset.rowA a (by simpa [Aa] using h) ha
    ·rcases hset.map with ⟨q,_⟩ | ⟨r,q,_,_,q4,_⟩
     ·rw [q] at h;simp [mapL] at h
     ·rw [q] at h;simp [mapL] at h;subst h;exact q4 ha
   ·subst e;have e2:a=gg:=(by simpa [Aa,Value.ownBlock] using hb);rcases AC.1 ha with h | h
    ·have e3:a=S:=(by simpa using h);exact hggS (by rw [←e2,e3])
    ·exact hgt a h e2
  ·rcases AC.1 hj with h | h
   ·rcases AC.1 h with h | h
    ·have e:j=S:=(by simpa using h);rw [e];exact .inl (Hlim.out S (by simp))
    ·rcases AC.1 h with h | h
     ·rcases htl j h with q | q
      ·exact .inl (Hlim.out j (by simp [q]))
      ·right;omega
     ·rcases hml j h with q | q
      ·exact .inl (Hlim.out j (by simp [q]))
      ·right;omega
   ·have e:j=gg:=(by simpa [Aa,Value.ownBlock] using h);rcases hgg with q | q
    ·left;rw [e];exact Hlim.out gg (AT _ q)
    ·right;omega
  ·rcases AC.1 hj with h | h
   ·rcases AC.1 h with h | h
    ·exact ⟨(hfw j (AT _ h)).1,Hlim.out j (AT _ h)⟩
    ·have e:j=S:=(by simpa using h);rw [e];exact ⟨HV.out.low,Hlim.out S (by simp)⟩
   ·exact ⟨(hfw j (AN _ (hT' j h))).1,Hlim.out j (AN _ (hT' j h))⟩
def VarTo (base S B:Nat) (F:Nat→Prop) (z:Nat) (r:Except I0 (BN×Ba)) (e:Ending) (w':World):Prop:=match r with
 | .error f=>e=Cx f.1 f.2
 | .ok (x,sc')=>e=.returned (.int .i64 x.num)∧x.isVar=true∧FM w' base S B sc' (fun j=>F j∨z≤j)
theorem YH {w:World} {base S B:Nat} {sc:Ba} {F:Nat→Prop} (h:FM w base S B sc F) (hbase:base≤w.heap.size) (m:Mean) (t:Tn) (hv:IV t.g=true) (d:Nat) (hl:sc.length≤4):Calls prog 341 #[.pointer (some ⟨S,0,none⟩),Da t,.int .i64 (d:Int)] w fun e w'=>VarTo base S B F w.heap.size (Gu m sc t d) e w'∧∃ T,AA T w w'∧∀ j∈T,base≤j∧F j:=by
 unfold Gu;rw [if_pos hv];cases hp:CP sc (BB t.g) with
 | some p=>
  simp only;obtain ⟨q,hq⟩:∃ q,sc[p]?=some q:=⟨_,AB (Ej hp)⟩;rw [hq];simp only [A5,BU];by_cases hd:q.2=d
  ·rw [if_neg (by simp [hd])];refine (lR h.to t d p hp hq hl hd).mono ?_;rintro e w' ⟨rfl,k⟩;exact ⟨⟨rfl,rfl,(h.keeps k).mono (fun _ _ _ h=>.inl h)⟩,[],k,by simp⟩
  ·rw [if_pos hd];refine (fU h.to t d p hp hq hl hd).mono ?_;rintro e w' ⟨rfl,k⟩;exact ⟨rfl,[],k,by simp⟩
 | none=>
  simp only;by_cases h4:sc.length=4
  ·rw [if_pos h4];refine (Zs h.to t d hp h4).mono ?_;rintro e w' ⟨rfl,k⟩;exact ⟨rfl,[],k,by simp⟩
  ·rw [if_neg h4];refine (fT h hbase t d hp h4 hl).mono ?_;rintro e w' ⟨rfl,hs,T,k,hT⟩;exact ⟨⟨rfl,rfl,hs⟩,T,k,hT⟩
def Eo (w:World) (base S B:Nat) (sc:Ba) (X:List Nat):Prop:=FM w base S B sc (fun j=>j∉X)
def fC (base S B:Nat) (X:List Nat) (r:Except I0 (BN×Ba)) (e:Ending) (w':World):Prop:=match r with
 | .error f=>e=Cx f.1 f.2
 | .ok (x,sc')=>e=.returned (.agg #[.bool x.isVar,.int .i64 x.num])∧Eo w' base S B sc' X
structure Res2 (w:World) (r:Nat) (a0 a1 x0 x1:Value):Prop where
 c0:w.cell? ⟨r,0,none⟩=some a0
 f0:w.frozen? ⟨r,0,none⟩=false
 c1:(w.setCell ⟨r,0,none⟩ x0).cell? ⟨r,1,none⟩=some a1
 f1:(w.setCell ⟨r,0,none⟩ x0).frozen? ⟨r,1,none⟩=false
 at_:AK ((w.setCell ⟨r,0,none⟩ x0).setCell ⟨r,1,none⟩ x1) r #[x0,x1]
 keep:AA [r] w ((w.setCell ⟨r,0,none⟩ x0).setCell ⟨r,1,none⟩ x1)
theorem Nt {w:World} {r:Nat} {a0 a1:Value} (h:AK w r #[a0,a1]) (x0 x1:Value):Res2 w r a0 a1 x0 x1:=by
 have h1:=h.setCell 0 x0;have h2:=h1.setCell 1 x1;exact ⟨h.cell 0,h.frozen 0,h1.cell 1,h1.frozen 1,h2,(AA.setCell w ⟨r,0,none⟩ x0).trans (AA.setCell (w.setCell ⟨r,0,none⟩ x0) ⟨r,1,none⟩ x1)⟩
theorem XV:(prog.info? 220).map (·.size)=some 2:=by kernel_rfl
theorem Z5 {w:World} {base S B:Nat} {sc:Ba} {X:List Nat} (h0:Eo w base S B sc X) (hX:∀ j∈X,j<w.heap.size) (hbase:base≤w.heap.size) (m:Mean) (t:Tn) (hv:IV t.g=true) (d:Nat) (hl:sc.length≤4):Calls prog 340 #[.pointer (some ⟨S,0,none⟩),Da t,.int .i64 (d:Int)] w fun e w'=>fC base S B X (Gu m sc t d) e w'∧∃ T,AA T w w'∧∀ j∈T,base≤j∧j∉X:=by
 have h:FM w base S B sc (fun j=>j∉X∧j<w.heap.size):=h0.mono (fun j _ h2 h3=>⟨h3,h2⟩);have hkind:((AV t.g).toList == [86,65,82])=true:=by cases hg:t.g <;> rw [hg] at hv <;> first | (show (Vj.toList == [86,65,82])=true;rw [LH];decide) | cases hv
 have kA:=AA.alloc [] w (.cells #[.string (AV t.g),.string (BB t.g),.int .i64 t.line] 129);have kB:=AA.alloc [] (w.alloc (.cells #[.string (AV t.g),.string (BB t.g),.int .i64 t.line] 129)) (.cells #[.bool false,.int .i64 0] 220);have hR:=AK.new (w.alloc (.cells #[.string (AV t.g),.string (BB t.g),.int .i64 t.line] 129)) #[.bool false,.int .i64 0] 220;rw [AX] at hR;have hvc:=AD (YH (w:=((w.alloc (.cells #[.string (AV t.g),.string (BB t.g),.int .i64 t.line] 129)).alloc (.cells #[.bool false,.int .i64 0] 220))) (h.keeps (kA.trans kB)) (by rw [AX,AX];omega) m t hv d hl);have hSl:S<w.heap.size:=by obtain ⟨_,_,_,hV,_⟩:=h;exact hV.cells.lt
 have kAB:=kA.trans kB;have HX:=AD hX;clear h h0 hX;cases hr:Gu m sc t d with
 | error f=>
  rw [hr] at hvc;clear hR kA kB;unfold Da;go_in
  go_wp2_with fail
  refine hvc.out.mono ?_;rintro e w1 ⟨rfl,T,k1,hT⟩;exact ⟨rfl,rfl,T,(kAB.mono (by simp)).trans k1,fun j hj=>⟨(hT j hj).1,(hT j hj).2.1⟩⟩
 | ok q=>
  obtain ⟨x,sc'⟩:=q;rw [hr] at hvc;clear kA kB;unfold Da;go_in
  go_wp2_with fail
  refine hvc.out.mono ?_;rintro e w1 ⟨⟨rfl,hx,hs⟩,T,k1,hT⟩;obtain ⟨c0,f0,c1,f1,hat,hk⟩:=Nt (hR.keeps k1 (fun hx=>by have:=(hT _ hx).2.2;omega)) (.bool true) (.int .i64 x.num);have Hat:=AD hat;have Hk:=AD hk;have Hs:=AD hs;have Hw:=AD hx;have hs1:=k1.size;clear hat hk hs hx;go_wp2_with fail
  refine bodyPost_ret (v:=.agg #[.bool true,.int .i64 x.num]) (EO (p:=6) (ty:=220) (by kernel_rfl) _ Hat.out underlying220 XV rfl) rfl ⟨⟨by rw [Hw.out],?_⟩,T,((kAB.mono (by simp)).trans k1).trans_new Hk.out (fun j hj=>?_),fun j hj=>⟨(hT j hj).1,(hT j hj).2.1⟩⟩
  ·refine (Hs.out.keeps Hk.out (fun j hj=>?_)).mono (fun j _ _ h2 hx=>?_)
   ·have e:j=w.heap.size+1:=(by simpa using hj);rintro (q | q)
    ·omega
    ·rw [AX,AX] at q;omega
   ·rcases h2 with q | q
    ·exact q.1 hx
    ·have:=HX.out j hx;rw [AX,AX] at q;omega
  ·have e:j=w.heap.size+1:=(by simpa using hj);right;omega
end
end Go.Proofs.YtgjomknpjigkhaaGreatDoor
