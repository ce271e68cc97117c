import Derived.Test.YtgjomknpjigkhaaGreatDoorU12
namespace Go.Proofs.YtgjomknpjigkhaaGreatDoor
open Go.Proofs.Tryz
set_option maxRecDepth 100000
set_option maxHeartbeats 4000000
section
open Go.RowKit
theorem rel_many {w:World} {base B:Nat} {m:Mean} (h:jQB w base B m) (n:Tn) (cv:Value) {av:Option Addr} {cn cc:Nat} (hcv:cv=.slice av cn cc) (h4:m.rels.length=6):Calls prog 337 #[.agg #[.string (eQA n.g),.string (txt n.g),.int .i64 n.line,cv],.pointer (some ⟨B,0,none⟩)] w fun e w'=>e=gQC 6 n.line∧aQA [] w w':=by
 subst hcv;obtain ⟨tD,mD,sz,tN,mN,co,cl,ln,cvs,kvs,hV⟩:=h;have kA:=aQA.alloc [] w (.cells #[.string (eQA n.g),.string (txt n.g),.int .i64 n.line,(.slice av cn cc)] 325);obtain ⟨aD,cD,hD⟩:=fQA hV.names.row;have hlen:=hide (fun (w':World) (k:aQA [] w w')=>aQF (w:=w') (B:=B) (o:=3) (ns:=m.rels.map Prod.fst) (a:=aD) (c:=cD) (by rw [(hV.cells.keeps k (by simp)).cell,←hD];rfl));have hBl:=hV.cells.lt;rw [List.length_map,h4] at hlen;have hno:=hide (fun (w:World)=>dQC (w:=w) n 6);clear hV;go_enter func337,ntmps337
 go_wp2_with fail
 go_region_law (first
  | (refine kQA rfl 254 _ _ rfl _ func254 (by kernel_rfl) (by kernel_rfl) [.pointer (some ⟨B,3,none⟩)] rfl ?_
     refine (hlen.out _ (kA.trans (aQA.drew _ _))).mono ?_;rintro e w1 ⟨rfl,rfl⟩)
  | (refine zQF rfl 335 _ _ rfl _ func335 (by kernel_rfl) (by kernel_rfl) [tokV n,.bool true,.int .i64 6] rfl ?_ ?_
     ·refine (hno.out _).mono ?_;rintro e w1 ⟨rfl,rfl⟩;exact ⟨rfl,rfl,(kA.trans (aQA.drew _ _)).trans (aQA.alloc [] _ _)⟩
     intro hf))
 all_goals exact (hf.out).elim
theorem rel_taken {w:World} {base B:Nat} {m:Mean} (h:jQB w base B m) (n:Tn) (cv:Value) {av:Option Addr} {cn cc:Nat} (hcv:cv=.slice av cn cc) (h4:¬ m.rels.length=6) (ht:m.taken (txt n.g)=true):Calls prog 337 #[.agg #[.string (eQA n.g),.string (txt n.g),.int .i64 n.line,cv],.pointer (some ⟨B,0,none⟩)] w fun e w'=>e=gQC 7 n.line∧aQA [] w w':=by
 subst hcv;obtain ⟨tD,mD,sz,tN,mN,co,cl,ln,cvs,kvs,hV⟩:=h;have kA:=aQA.alloc [] w (.cells #[.string (eQA n.g),.string (txt n.g),.int .i64 n.line,(.slice av cn cc)] 325);have hA:=cQA.new w #[.string (eQA n.g),.string (txt n.g),.int .i64 n.line,(.slice av cn cc)] 325;obtain ⟨aD,cD,hD⟩:=fQA hV.names.row;have hlen:=hide (fun (w':World) (k:aQA [] w w')=>aQF (w:=w') (B:=B) (o:=3) (ns:=m.rels.map Prod.fst) (a:=aD) (c:=cD) (by rw [(hV.cells.keeps k (by simp)).cell,←hD];rfl));have htk:=hide (fun (w':World) (k:aQA [] w w')=>jQI (hV.cells.keeps k (by simp)) rfl rfl ((hV.keeps k (by simp)).doms) ((hV.keeps k (by simp)).names) (txt n.g));rw [vQA,vQA] at htk;change (_ || _)=true at ht;have ht':((yQB m.doms (txt n.g)).isSome || (yQB m.rels (txt n.g)).isSome)=true:=ht;rw [ht'] at htk;have hBl:=hV.cells.lt;rw [List.length_map] at hlen;have h4I:(((m.rels.length:Nat):Int) == 6)=false:=by rw [beq_eq_false_iff_ne];omega
 have hno:=hide (fun (w:World)=>iQC (w:=w) n 6);have hyes:=hide (fun (w:World)=>dQC (w:=w) n 7);clear hV ht ht';go_enter func337,ntmps337
 go_upto_region 1 with fail
 go_cut [] (fun wc=>aQA [] w wc∧cQA wc w.heap.size #[.string (eQA n.g),.string (txt n.g),.int .i64 n.line,(.slice av cn cc)])
 case first=>
  go_region_law (first
   | (refine kQA rfl 254 _ _ rfl _ func254 (by kernel_rfl) (by kernel_rfl) [.pointer (some ⟨B,3,none⟩)] rfl ?_
      refine (hlen.out _ (kA.trans (aQA.drew _ _))).mono ?_;rintro e w1 ⟨rfl,rfl⟩)
   | (refine kQA rfl 335 _ _ rfl _ func335 (by kernel_rfl) (by kernel_rfl) [tokV n,.bool false,.int .i64 6] rfl ?_
      refine (hno.out _).mono ?_;rintro e w1 ⟨rfl,rfl⟩))
  all_goals
   go_wp2_with fail
   go_meet
   exact ⟨(kA.trans (aQA.drew _ _)).trans (aQA.alloc [] _ _),(hA.keeps (aQA.drew [] _) (by simp)).keeps (aQA.alloc [] _ _) (by simp)⟩
 case rest=>
  obtain ⟨k1,hA1⟩:=hcut;have d0:=hA1.cell 0;have d1:=hA1.cell 1;have d2:=hA1.cell 2;go_wp2_with fail
  go_region_law (first
   | (refine kQA rfl 336 _ _ rfl _ func336 (by kernel_rfl) (by kernel_rfl) [.pointer (some ⟨B,0,none⟩),.string (txt n.g)] rfl ?_
      refine (htk.out _ (k1.trans (aQA.drew _ _))).mono ?_;rintro e w1 ⟨rfl,rfl⟩)
   | (refine zQF rfl 335 _ _ rfl _ func335 (by kernel_rfl) (by kernel_rfl) [tokV n,.bool true,.int .i64 7] rfl ?_ ?_
      ·refine (hyes.out _).mono ?_;rintro e w1 ⟨rfl,rfl⟩;exact ⟨rfl,rfl,(k1.trans (aQA.drew _ _)).trans (aQA.alloc [] _ _)⟩
      intro hf))
  all_goals exact (hf.out).elim
end
section
open Go.RowKit
def headR (B:Nat) (tD mD sz:Value):List Nat:=[B]++ownL tD++mapL mD++ownL sz
theorem footR (B:Nat) (tD mD sz tN mN co cl ln:Value):qQD B tD mD sz tN mN co cl ln=headR B tD mD sz++(ownL tN++mapL mN++ownL co)++(ownL cl++ownL ln):=by simp [qQD,headR]
theorem MeanV.addRel {w w':World} {base B:Nat} {m:Mean} {tD mD sz tN mN co cl ln tN' mN' co' cv:Value} {cvs kvs:List Value} {T:List Nat} (h:MeanV w base B m tD mD sz tN mN co cl ln cvs kvs) {s:ByteArray} {ds:List Nat} (k:aQA T w w') (hT:∀ j∈T,j∈[B]++(ownL tN++mapL mN++ownL co)∨w.heap.size≤j)
  (hc:cQA w' B #[tD,mD,sz,tN',mN',co',cl,ln]) (hs:SetV w' base [B] tN' mN' (m.rels.map Prod.fst++[s])) (hz:w'.ownsRow base 40 1 co' (m.rels.length+1) (cvs++[cv])) (hcv:w'.ownsRow base 3 1 cv ds.length (oQI ds)) (hcvA:∀ j∈ownL cv,j∉qQD B tD mD sz tN' mN' co' cl ln)
  (hn:∀ j∈ownL tN'++mapL mN'++ownL co',j∈ownL tN++mapL mN++ownL co∨w.heap.size≤j) (hd:(ownL tN'++mapL mN'++ownL co').Nodup):jQB w' base B { m with rels:=m.rels++[(s,ds)] }:=by
 have hf:=h.foot;rw [footR] at hf;have hlt:=h.foot_lt;rw [footR] at hlt;have hAp:=rQB hf;have hTA:∀ j∈ownL tD++mapL mD++ownL sz,j∉T:=fun j hj hjT=>by
  have hjH:j∈headR B tD mD sz:=by simp only [headR,List.append_assoc];exact List.mem_append_right _ (by simpa using hj)
  rcases hT j hjT with h' | h'
  ·rcases List.mem_append.1 h' with h' | h'
   ·have e:j=B:=(by simpa using h');subst e;have h2:([j]++(ownL tD++mapL mD++ownL sz)++restD tN mN co cl ln).Nodup:=by have:=h.foot;rw [footD] at this;exact this
    exact ((rQB h2).1 j hj).1 (by simp)
   ·exact (hAp.1 j h').1 hjH
  ·have:=(hlt j (List.mem_append_left _ (List.mem_append_left _ hjH))).2;omega
 have hTR:∀ j∈ownL cl++ownL ln,j∉T:=fun j hj hjT=>by
  rcases hT j hjT with h' | h'
  ·rcases List.mem_append.1 h' with h' | h'
   ·have e:j=B:=(by simpa using h');exact (hAp.2 j hj).1 (by rw [e];simp [headR])
   ·exact (hAp.2 j hj).2 h'
  ·have:=(hlt j (List.mem_append_right _ hj)).2;omega
 have hfN:(qQD B tD mD sz tN' mN' co' cl ln).Nodup:=by
  rw [footR];refine nodup_mid (n:=w.heap.size) hf (fun j hj=>?_) hd hn;rcases List.mem_append.1 hj with h' | h'
  ·exact (hlt j (List.mem_append_left _ (List.mem_append_left _ h'))).2
  ·exact (hlt j (List.mem_append_right _ h')).2
 have hXT:∀ j∈T,j∈qQD B tD mD sz tN mN co cl ln∨j<base∨w.heap.size≤j:=fun j hj=>by
  rcases hT j hj with h' | h'
  ·left;rw [footR];rcases List.mem_append.1 h' with q | q
   ·have e:j=B:=(by simpa using q);exact List.mem_append_left _ (List.mem_append_left _ (by rw [e];simp [headR]))
   ·exact List.mem_append_left _ (List.mem_append_right _ q)
  ·exact .inr (.inr h')
 have hY:∀ j∈qQD B tD mD sz tN' mN' co' cl ln++qQD B tD mD sz tN mN co cl ln,j∈qQD B tD mD sz tN mN co cl ln∨w.heap.size≤j:=fun j hj=>by
  rcases List.mem_append.1 hj with hj | hj
  ·rw [footR] at hj ⊢;rcases List.mem_append.1 hj with h' | h'
   ·rcases List.mem_append.1 h' with h'' | h''
    ·exact .inl (List.mem_append_left _ (List.mem_append_left _ h''))
    ·rcases hn j h'' with q | q
     ·exact .inl (List.mem_append_left _ (List.mem_append_right _ q))
     ·exact .inr q
   ·exact .inl (List.mem_append_right _ h')
  ·exact .inl hj
 have own:∀ {e:TypeId} {size n:Nat} {u:Value} {xs:List Value},w.ownsRow base e size u n xs→(∀ j∈ownL u,j∉T)→w'.ownsRow base e size u n xs:=fun h hr=>bQA h k (fun j hj=>hr j (by simp [ownL,hj]));refine ⟨tD,mD,sz,tN',mN',co',cl,ln,cvs++[cv],kvs,hc,h.low,hfN,h.doms.kept k (fun j hj=>hTA j (by simp [hj])) (fun j hj=>hTA j (by simp [hj])),own h.sizes (fun j hj=>hTA j (by simp [hj])),by rw [List.map_append];exact hs,by rw [List.length_append,List.length_singleton];exact hz,?_,own h.cls (fun j hj=>hTR j (by simp [hj])),?_,own h.lines (fun j hj=>hTR j (by simp [hj]))⟩
 ·refine gQF.snoc ?_ hcv hcvA;exact (((h.colsA.apart hY).keeps k (fun j hj=>by
   rcases hXT j hj with h' | h'
   ·exact .inl (List.mem_append_right _ h')
   ·exact .inr h'))).apart (fun j hj=>.inl (List.mem_append_left _ hj))
 ·exact (((h.clsA.apart hY).keeps k (fun j hj=>by
   rcases hXT j hj with h' | h'
   ·exact .inl (List.mem_append_right _ h')
   ·exact .inr h'))).apart (fun j hj=>.inl (List.mem_append_left _ hj))
theorem rowPTok {w:World} {b g n c:Nat} {ts:List Tn} (h:w.ownsRow b 129 3 (.slice (some ⟨g,0,none⟩) n c) n (hQD ts)):PTok w g 0 ts:=by
 obtain ⟨_,⟨h1,_⟩ | ⟨g',cap,cur,hv,hb,hg,hn,hc,hs,htk⟩⟩:=h
 ·cases h1
 ·cases hv;refine ⟨cur,⟨_,hg⟩,fun j t hj=>?_⟩;have key:∀ (ts:List Tn) (j:Nat) (t:Tn),ts[j]?=some t→∀ q,q<3→(hQD ts)[j * 3+q]?=(tokC t)[q]?:=by
   intro ts;induction ts with
   | nil=>intro j t hj;simp at hj
   | cons x ts ih=>
    intro j t hj q hq;have e:hQD (x :: ts)=tokC x++hQD ts:=(by simp [hQD]);rw [e];cases j with
    | zero=>
     simp at hj;subst hj;rw [Nat.zero_mul,Nat.zero_add,List.getElem?_append_left (by simpa [tokC] using hq)]
    | succ j=>
     rw [List.getElem?_append_right (by simp [tokC];omega)];have:(j+1) * 3+q - (tokC x).length=j * 3+q:=by simp [tokC];omega
     rw [this];exact ih j t (by simpa using hj) q hq
  have cell:∀ q,q<3→cur[j * 3+q]?=(tokC t)[q]?:=fun q hq=>by
   have h1:=key ts j t hj q hq;rw [←htk,List.getElem?_take] at h1;split at h1
   ·rw [←h1];simp
   ·have h2:(tokC t)[q]?≠none:=by
     match q,hq with
     | 0,_=>simp [tokC]
     | 1,_=>simp [tokC]
     | 2,_=>simp [tokC]
    exact absurd h1.symm h2
  exact ⟨by rw [Nat.zero_add];exact cell 0 (by omega),by rw [Nat.zero_add];exact cell 1 (by omega),by rw [Nat.zero_add];exact cell 2 (by omega)⟩
end
section
open Go.RowKit
theorem aQC {w:World} {base:Nat} {e:TypeId} {size n c:Nat} {a:Option Addr} {xs:List Value} (h:w.ownsRow base e size (.slice a n c) n xs) (hn:0<n):∃ g,a=some ⟨g,0,none⟩:=by
 rcases h.2 with ⟨h1,h2⟩ | ⟨g,cap,cur,h1,_⟩
 ·omega
 ·cases h1;exact ⟨g,rfl⟩
structure ScopeV (w:World) (base S B:Nat) (sc:aQB) (tV mV kd:Value):Prop where
 cells:cQA w S #[.pointer (some ⟨B,0,none⟩),tV,mV,kd]
 low:base≤S
 foot:([S]++(ownL tV++mapL mV)++ownL kd).Nodup
 vars:SetV w base [S] tV mV (sc.map Prod.fst)
 kinds:w.ownsRow base 3 1 kd sc.length (oQI (sc.map Prod.snd))
def yQI (w:World) (base S B:Nat) (sc:aQB):Prop:=∃ tV mV kd,ScopeV w base S B sc tV mV kd
theorem ScopeV.foot_lt {w:World} {base S B:Nat} {sc:aQB} {tV mV kd:Value} (h:ScopeV w base S B sc tV mV kd):∀ j∈[S]++(ownL tV++mapL mV)++ownL kd,base≤j∧j<w.heap.size:=fun j hj=>by
 simp only [List.mem_append,List.mem_singleton] at hj;rcases hj with (hj | hj | hj) | hj
 ·subst hj;exact ⟨h.low,h.cells.lt⟩
 ·exact jQC h.vars.row j hj
 ·exact tQJ h.vars j hj
 ·exact jQC h.kinds j hj
theorem ScopeV.keeps {w w':World} {base S B:Nat} {sc:aQB} {tV mV kd:Value} {T:List Nat} (h:ScopeV w base S B sc tV mV kd) (k:aQA T w w') (hT:∀ j∈T,j<base∨w.heap.size≤j):ScopeV w' base S B sc tV mV kd:=by
 have hT':∀ j,base≤j∧j<w.heap.size→j∉T:=fun j hj hjT=>by have:=hT j hjT;omega
 exact ⟨h.cells.keeps k (hT' S ⟨h.low,h.cells.lt⟩),h.low,h.foot,h.vars.kept k (fun j hj=>hT' j (jQC h.vars.row j hj)) (fun j hj=>hT' j (tQJ h.vars j hj)),bQA h.kinds k (fun j hj=>hT' j (qQA h.kinds j hj))⟩
theorem var_ok {w:World} {base S B:Nat} {sc:aQB} (h:yQI w base S B sc) (t:Tn) (d p:Nat) (hp:yQB sc (txt t.g)=some p) {q:ByteArray×Nat} (hq:sc[p]?=some q) (hl:sc.length≤4) (hd:q.2=d):Calls prog 341 #[.pointer (some ⟨S,0,none⟩),tokV t,.int .i64 (d:Int)] w fun e w'=>e=.returned (.int .i64 (p:Int))∧aQA [] w w':=by
 obtain ⟨tV,mV,kd,hV⟩:=h;have hpl:=gQE hp;have kA:=aQA.alloc [] w (.cells #[.string (eQA t.g),.string (txt t.g),.int .i64 t.line] 129);have hplc:=hide (fun (w':World) (k:aQA [] w w')=>iQD (B:=S) (o:=1) ((hV.keeps k (by simp)).vars) (by rw [(hV.cells.keeps k (by simp)).cell];rfl) (txt t.g));rw [vQA,hp] at hplc;obtain ⟨ak,ck,hk⟩:=fQA hV.kinds;subst hk;obtain ⟨gk,hgk⟩:=aQC hV.kinds (by omega);subst hgk;have hkc:∀ {W:World},aQA [] w W→W.cell? ⟨S,3,none⟩=some (.slice (some ⟨gk,0,none⟩) sc.length ck)∧W.cell? ⟨gk,p,none⟩=some (.int .i64 (q.2:Int)):=fun k=>by
  refine ⟨by rw [(hV.cells.keeps k (by simp)).cell];rfl,yQG (bQA hV.kinds k (by simp)) ?_⟩;simp [oQI,hq]
 have hSl:=hV.cells.lt;have hplI:(p:Int)<sc.length:=by omega
 have hgl:gk<w.heap.size:=(qQA hV.kinds gk rfl).2;obtain ⟨x1,x2⟩:=hkc (kA.trans (aQA.drew _ _));obtain ⟨x3,x4⟩:=hkc ((kA.trans (aQA.drew _ _)).trans (aQA.drew _ _));have hqd:(((q.2:Nat):Int) != (d:Int))=false:=by rw [hd];simp
 have hno:=hide (fun (w:World)=>iQC (w:=w) t 11);clear hV hkc hp hq hpl hd;generalize sc.length=L at *;unfold tokV;go_enter func341,ntmps341
 go_wp2_with fail
 go_region_law (first
  | (refine kQA rfl 77 _ _ rfl _ func77 (by kernel_rfl) (by kernel_rfl) [.pointer (some ⟨S,1,none⟩),.string (txt t.g)] rfl ?_
     refine (hplc.out _ (kA.trans (aQA.drew _ _))).mono ?_;rintro e w4 ⟨rfl,rfl⟩))
 go_wp2_with fail
 go_region_law (first
  | (refine kQA rfl 335 _ _ rfl _ func335 (by kernel_rfl) (by kernel_rfl) [tokV t,.bool false,.int .i64 11] rfl ?_
     refine (hno.out _).mono ?_;rintro e w1 ⟨rfl,rfl⟩))
 all_goals
  go_wp2_with fail
  go_ret
  exact ⟨rfl,((kA.trans (aQA.drew _ _)).trans (aQA.drew _ _)).trans (aQA.alloc [] _ _)⟩
theorem var_bad {w:World} {base S B:Nat} {sc:aQB} (h:yQI w base S B sc) (t:Tn) (d p:Nat) (hp:yQB sc (txt t.g)=some p) {q:ByteArray×Nat} (hq:sc[p]?=some q) (hl:sc.length≤4) (hd:q.2≠d):Calls prog 341 #[.pointer (some ⟨S,0,none⟩),tokV t,.int .i64 (d:Int)] w fun e w'=>e=gQC 11 t.line∧aQA [] w w':=by
 obtain ⟨tV,mV,kd,hV⟩:=h;have hpl:=gQE hp;have kA:=aQA.alloc [] w (.cells #[.string (eQA t.g),.string (txt t.g),.int .i64 t.line] 129);have hplc:=hide (fun (w':World) (k:aQA [] w w')=>iQD (B:=S) (o:=1) ((hV.keeps k (by simp)).vars) (by rw [(hV.cells.keeps k (by simp)).cell];rfl) (txt t.g));rw [vQA,hp] at hplc;obtain ⟨ak,ck,hk⟩:=fQA hV.kinds;subst hk;obtain ⟨gk,hgk⟩:=aQC hV.kinds (by omega);subst hgk;have hkc:∀ {W:World},aQA [] w W→W.cell? ⟨S,3,none⟩=some (.slice (some ⟨gk,0,none⟩) sc.length ck)∧W.cell? ⟨gk,p,none⟩=some (.int .i64 (q.2:Int)):=fun k=>by
  refine ⟨by rw [(hV.cells.keeps k (by simp)).cell];rfl,yQG (bQA hV.kinds k (by simp)) ?_⟩;simp [oQI,hq]
 have hSl:=hV.cells.lt;have hplI:(p:Int)<sc.length:=by omega
 have hgl:gk<w.heap.size:=(qQA hV.kinds gk rfl).2;obtain ⟨x1,x2⟩:=hkc (kA.trans (aQA.drew _ _));obtain ⟨x3,x4⟩:=hkc ((kA.trans (aQA.drew _ _)).trans (aQA.drew _ _));have hqd:(((q.2:Nat):Int) != (d:Int))=true:=by rw [bne_iff_ne];omega
 have hyes:=hide (fun (w:World)=>dQC (w:=w) t 11);clear hV hkc hp hq hpl hd;generalize sc.length=L at *;unfold tokV;go_enter func341,ntmps341
 go_wp2_with fail
 go_region_law (first
  | (refine kQA rfl 77 _ _ rfl _ func77 (by kernel_rfl) (by kernel_rfl) [.pointer (some ⟨S,1,none⟩),.string (txt t.g)] rfl ?_
     refine (hplc.out _ (kA.trans (aQA.drew _ _))).mono ?_;rintro e w4 ⟨rfl,rfl⟩))
 go_wp2_with fail
 go_region_law (first
  | (refine zQF rfl 335 _ _ rfl _ func335 (by kernel_rfl) (by kernel_rfl) [tokV t,.bool true,.int .i64 11] rfl ?_ ?_
     ·refine (hyes.out _).mono ?_;rintro e w1 ⟨rfl,rfl⟩;exact ⟨rfl,rfl,((kA.trans (aQA.drew _ _)).trans (aQA.drew _ _)).trans (aQA.alloc [] _ _)⟩
     intro hf))
 all_goals exact (hf.out).elim
end
section
open Go.RowKit
def kQG (w:World) (base S B:Nat) (sc:aQB) (F:Nat→Prop):Prop:=∃ tV mV kd,ScopeV w base S B sc tV mV kd∧∀ j∈[S]++(ownL tV++mapL mV)++ownL kd,F j
theorem kQG.to {w:World} {base S B:Nat} {sc:aQB} {F:Nat→Prop} (h:kQG w base S B sc F):yQI w base S B sc:=by
 obtain ⟨a,b,c,h,_⟩:=h;exact ⟨a,b,c,h⟩
theorem kQG.keeps {w w':World} {base S B:Nat} {sc:aQB} {F:Nat→Prop} {T:List Nat} (h:kQG w base S B sc F) (k:aQA T w w') (hT:∀ j∈T,¬ F j):kQG w' base S B sc F:=by
 obtain ⟨a,b,c,h,hn⟩:=h;have hT':∀ j∈[S]++(ownL a++mapL b)++ownL c,j∉T:=fun j hj hjT=>hT j hjT (hn j hj);exact ⟨a,b,c,⟨h.cells.keeps k (hT' S (by simp)),h.low,h.foot,h.vars.kept k (fun j hj=>hT' j (by simp [hj])) (fun j hj=>hT' j (by simp [hj])),bQA h.kinds k (fun j hj=>hT' j (by simp [ownL,hj]))⟩,hn⟩
theorem kQG.mono {w:World} {base S B:Nat} {sc:aQB} {F G:Nat→Prop} (h:kQG w base S B sc F) (hG:∀ j,base≤j→j<w.heap.size→F j→G j):kQG w base S B sc G:=by
 obtain ⟨a,b,c,h,hn⟩:=h;exact ⟨a,b,c,h,fun j hj=>hG j (h.foot_lt j hj).1 (h.foot_lt j hj).2 (hn j hj)⟩
theorem var_many {w:World} {base S B:Nat} {sc:aQB} (h:yQI w base S B sc) (t:Tn) (d:Nat) (hp:yQB sc (txt t.g)=none) (h4:sc.length=4):Calls prog 341 #[.pointer (some ⟨S,0,none⟩),tokV t,.int .i64 (d:Int)] w fun e w'=>e=gQC 6 t.line∧aQA [] w w':=by
 obtain ⟨tV,mV,kd,hV⟩:=h;have kA:=aQA.alloc [] w (.cells #[.string (eQA t.g),.string (txt t.g),.int .i64 t.line] 129);have hplc:=hide (fun (w':World) (k:aQA [] w w')=>iQD (B:=S) (o:=1) ((hV.keeps k (by simp)).vars) (by rw [(hV.cells.keeps k (by simp)).cell];rfl) (txt t.g));rw [vQA,hp] at hplc;obtain ⟨aD,cD,hD⟩:=fQA hV.vars.row;have hlen:=hide (fun (w':World) (k:aQA [] w w')=>aQF (w:=w') (B:=S) (o:=1) (ns:=sc.map Prod.fst) (a:=aD) (c:=cD) (by rw [(hV.cells.keeps k (by simp)).cell,←hD];rfl));rw [List.length_map,h4] at hlen;have hSl:=hV.cells.lt;have hyes:=hide (fun (w:World)=>dQC (w:=w) t 6);clear hV hp h4;unfold tokV;go_enter func341,ntmps341
 go_wp2_with fail
 go_region_law (first
  | (refine kQA rfl 77 _ _ rfl _ func77 (by kernel_rfl) (by kernel_rfl) [.pointer (some ⟨S,1,none⟩),.string (txt t.g)] rfl ?_
     refine (hplc.out _ (kA.trans (aQA.drew _ _))).mono ?_;rintro e w4 ⟨rfl,rfl⟩))
 go_wp2_with fail
 go_region_law (first
  | (refine kQA rfl 254 _ _ rfl _ func254 (by kernel_rfl) (by kernel_rfl) [.pointer (some ⟨S,1,none⟩)] rfl ?_
     refine (hlen.out _ ((kA.trans (aQA.drew _ _)).trans (aQA.drew _ _))).mono ?_;rintro e w1 ⟨rfl,rfl⟩)
  | (refine zQF rfl 335 _ _ rfl _ func335 (by kernel_rfl) (by kernel_rfl) [tokV t,.bool true,.int .i64 6] rfl ?_ ?_
     ·refine (hyes.out _).mono ?_;rintro e w1 ⟨rfl,rfl⟩;exact ⟨rfl,rfl,((kA.trans (aQA.drew _ _)).trans (aQA.drew _ _)).trans (aQA.alloc [] _ _)⟩
     intro hf))
 all_goals exact (hf.out).elim
set_option maxHeartbeats 8000000 in
theorem var_new {w:World} {base S B:Nat} {sc:aQB} {F:Nat→Prop} (h:kQG w base S B sc F) (hbase:base≤w.heap.size) (t:Tn) (d:Nat) (hp:yQB sc (txt t.g)=none) (h4:¬ sc.length=4) (h4l:sc.length≤4):Calls prog 341 #[.pointer (some ⟨S,0,none⟩),tokV t,.int .i64 (d:Int)] w fun e w'=>e=.returned (.int .i64 (sc.length:Int))∧kQG w' base S B (sc++[(txt t.g,d)]) (fun j=>F j∨w.heap.size≤j)∧∃ T,aQA T w w'∧∀ j∈T,base≤j∧F j:=by
 obtain ⟨i0,hi0,hz0,hz1,hz2⟩:=info_parts info3E;obtain ⟨tV,mV,kd,hV,hlim⟩:=h;have Hlim:=hide hlim;clear hlim;have kA:=aQA.alloc [] w (.cells #[.string (eQA t.g),.string (txt t.g),.int .i64 t.line] 129);have hA:=cQA.new w #[.string (eQA t.g),.string (txt t.g),.int .i64 t.line] 129;have hplc:=hide (fun (w':World) (k:aQA [] w w')=>iQD (B:=S) (o:=1) ((hV.keeps k (by simp)).vars) (by rw [(hV.cells.keeps k (by simp)).cell];rfl) (txt t.g));rw [vQA,hp] at hplc;obtain ⟨aD,cD,hD⟩:=fQA hV.vars.row;have hlen:=hide (fun (w':World) (k:aQA [] w w')=>aQF (w:=w') (B:=S) (o:=1) (ns:=sc.map Prod.fst) (a:=aD) (c:=cD) (by rw [(hV.cells.keeps k (by simp)).cell,←hD];rfl));rw [List.length_map] at hlen;have h4I:(((sc.length:Nat):Int) == 4)=false:=by rw [beq_eq_false_iff_ne];omega
 have hSl:=hV.cells.lt;have hno:=hide (fun (w:World)=>iQC (w:=w) t 6);have hpl:bQD (sc.map Prod.fst) (txt t.g)=none:=by rw [vQA];exact hp
 have HV:=hide hV;have Hpl:=hide hpl;clear hV hp hpl;unfold tokV;go_enter func341,ntmps341
 go_wp2_with fail
 go_region_law (first
  | (refine kQA rfl 77 _ _ rfl _ func77 (by kernel_rfl) (by kernel_rfl) [.pointer (some ⟨S,1,none⟩),.string (txt t.g)] rfl ?_
     refine (hplc.out _ (kA.trans (aQA.drew _ _))).mono ?_;rintro e w4 ⟨rfl,rfl⟩))
 go_upto_region 5 with fail
 go_cut [] (fun wc=>aQA [] w wc∧cQA wc w.heap.size #[.string (eQA t.g),.string (txt t.g),.int .i64 t.line])
 case first=>
  go_region_law (first
   | (refine kQA rfl 254 _ _ rfl _ func254 (by kernel_rfl) (by kernel_rfl) [.pointer (some ⟨S,1,none⟩)] rfl ?_
      refine (hlen.out _ ((kA.trans (aQA.drew _ _)).trans (aQA.drew _ _))).mono ?_;rintro e w1 ⟨rfl,rfl⟩)
   | (refine kQA rfl 335 _ _ rfl _ func335 (by kernel_rfl) (by kernel_rfl) [tokV t,.bool false,.int .i64 6] rfl ?_
      refine (hno.out _).mono ?_;rintro e w1 ⟨rfl,rfl⟩))
  all_goals
   go_wp2_with fail
   go_meet
   exact ⟨((kA.trans (aQA.drew _ _)).trans (aQA.drew _ _)).trans (aQA.alloc [] _ _),((hA.keeps (aQA.drew [] _) (by simp)).keeps (aQA.drew [] _) (by simp)).keeps (aQA.alloc [] _ _) (by simp)⟩
 case rest=>
  obtain ⟨k1,hA1⟩:=hcut;have hV1:=HV.out.keeps k1 (by simp);obtain ⟨aS,cS,hS⟩:=fQA hV1.kinds;subst hS;have d3:=hV1.cells.cell 3;have hS1:=hV1.cells.lt;have kA4:=aQA.alloc [] wc (.cells #[.int .i64 (d:Int)] 3);have ownB:=bQA hV1.kinds kA4 (by simp);have hs1:=k1.size;have hSk:S∉ownL (.slice aS sc.length cS):=fun hx=>by
   have h2:=hV1.foot;exact ((rQB h2).2 S hx).1 (by simp)
  have hfl:=hV1.foot_lt;clear hplc hlen hno;go_wp2_with (at_builtin;refine wpList_append_own_at _ rfl _ _ 40 rfl base 3 i0 (.int .i64 0) 1 8 underlying40 hi0 hz0 hz1 hz2 rfl (by decide) _ sc.length (oQI (sc.map Prod.snd)) rfl ownB ⟨wc.heap.size,0,none⟩ 1 1 [.int .i64 (d:Int)] rfl (by simp) int_one (by simp [Value.oneCell']) (by unfold maxLen;omega) (by omega) (by rw [dQA];omega) ?_)
  intro v' W2 own4 grow4 nil4 at4;have k4:=grownBy_keeps' grow4 (ownL (.slice aS sc.length cS)) (fun r e=>.inl (by simp [ownL,e]));obtain ⟨gg,cap,rfl⟩:=kQC own4;have hC4:=(hV1.cells.keeps kA4 (by simp)).keeps k4 hSk;have e3:=hC4.cell 3;have f3:=hC4.frozen 3;have ks:=aQA.setCell W2 ⟨S,3,none⟩ (.slice (some ⟨gg,0,none⟩) (sc.length+1) cap);have hC5:cQA (W2.setCell ⟨S,3,none⟩ (.slice (some ⟨gg,0,none⟩) (sc.length+1) cap)) S #[.pointer (some ⟨B,0,none⟩),tV,mV,.slice (some ⟨gg,0,none⟩) (sc.length+1) cap]:=hC4.setCell 3 _;have hgg:gg∈ownL (.slice aS sc.length cS)∨gg=wc.heap.size+1:=by
   rcases at4 with h | h
   ·left;simp only [ownL];rw [←h];simp [Value.ownBlock]
   ·right;simpa [Value.ownBlock] using h
  have hggS:gg≠S:=by
   rcases hgg with h | h
   ·rintro rfl;exact hSk h
   ·omega
  have k5:aQA (ownL (.slice aS sc.length cS)++[S]) wc (W2.setCell ⟨S,3,none⟩ (.slice (some ⟨gg,0,none⟩) (sc.length+1) cap)):=((kA4.mono (by simp)).trans (k4.mono (fun i hi=>by simp [hi]))).trans (ks.mono (by simp));have hap:=rQB hV1.foot;have hset5:=hV1.vars.kept k5 (fun j hj hx=>by
   rcases List.mem_append.1 hx with h | h
   ·exact (hap.2 j h).2 (by simp [hj])
   ·exact hV1.vars.rowA j (by simpa [ownL] using hj) h) (fun j hj hx=>by
   rcases List.mem_append.1 hx with h | h
   ·exact (hap.2 j h).2 (by simp [hj])
   ·exact (hap.1 j (by simp [hj])).1 h)
  have own5:=bQA own4 ks (fun j hj hx=>by
   have e1:j=S:=(by simpa using hx);have e2:gg=j:=(by simpa [Value.ownBlock] using hj);exact hggS (by rw [e2,e1]))
  have hA5:=hA1.keeps k5 (fun hx=>by
   rcases List.mem_append.1 hx with h | h
   ·have:=(qQA HV.out.kinds w.heap.size (by simpa [ownL] using h)).2;omega
   ·have e:w.heap.size=S:=(by simpa using h);omega)
  have hs5:=k5.size;have H1:=hide hC5;have H2:=hide k5;have H3:=hide hset5;have H4:=hide own5;have H5:=hide hA5;clear hC5 k5 hset5 own5 hA5 own4 grow4 nil4 at4 k4 hC4 ks ownB kA4 d3;go_upto_region 7 with fail
  have hC5:=H1.out;have k5:=H2.out;have hset5:=H3.out;have own5:=H4.out;have hA5:=H5.out;clear H1 H2 H3 H4 H5 e3 f3;generalize hW:W2.setCell ⟨S,3,none⟩ (.slice (some ⟨gg,0,none⟩) (sc.length+1) cap)=W5 at *;clear hW;have kd5:=aQA.drew [] W5;have hadd:=hide (add_calls (w:=W5.drew) (s:=txt t.g) (hC5.keeps kd5 (by simp)) (o:=1) rfl rfl (X:=[S]) (by simp) (fun j hj=>by have e:j=S:=(by simpa using hj);have:=(hC5.keeps kd5 (by simp)).lt;omega) (by have:=kd5.size;omega) (hset5.kept kd5 (by simp) (by simp)) (by rw [List.length_map];omega) Hpl.out);rw [List.length_map] at hadd;have c1:=hA5.cell 1;have hS5:=hC5.lt;have HC5:=hide hC5;have Hk5:=hide k5;have Hset5:=hide hset5;have Hown5:=hide own5;clear hC5 k5 hset5 own5 hA5;go_region_law (first
   | (refine kQA rfl 72 _ _ rfl _ func72 (by kernel_rfl) (by kernel_rfl) [.pointer (some ⟨S,1,none⟩),.string (txt t.g)] rfl ?_
      refine hadd.out.mono ?_;rintro e w6 ⟨rfl,hAd⟩))
  go_wp2_with fail
  go_ret
  obtain ⟨tv',mv',hcells,hset,hown',hmap'⟩:=hAd.set;obtain ⟨T,kT,hT⟩:=hAd.keep;have hcells':cQA w6 S #[.pointer (some ⟨B,0,none⟩),tv',mv',.slice (some ⟨gg,0,none⟩) (sc.length+1) cap]:=hcells;have hT':∀ j∈T,j∈[S]++(ownL tV++mapL mV):=fun j hj=>by
   rcases hT j hj with h | h | h
   ·simp [h]
   ·have h2:tV.ownBlock=some j:=h;simp [ownL,h2]
   ·have h2:mV=.map (some j):=h;simp [mapL,h2]
  have hfw:∀ j∈[S]++(ownL tV++mapL mV)++ownL (.slice aS sc.length cS),base≤j∧j<wc.heap.size:=hfl;have hap:=rQB hV1.foot;have hggT:gg∉T:=fun hx=>by
   have h1:=hT' gg hx;rcases hgg with h | h
   ·rcases List.mem_append.1 h1 with q | q
    ·exact (hap.2 gg h).1 q
    ·exact (hap.2 gg h).2 q
   ·have:=(hfw gg (List.mem_append_left _ h1)).2;omega
  have kd5':aQA T W5 w6:=(kd5.mono (by simp)).trans kT;have hkind:=bQA Hown5.out kd5' (fun j hj=>by have e:gg=j:=(by simpa [Value.ownBlock] using hj);rw [←e];exact hggT);have htl:∀ j∈ownL tv',j∈ownL tV∨W5.heap.size≤j:=fun j hj=>by
   rcases hown' j (by simpa [ownL] using hj) with h | h
   ·left;have h2:tV.ownBlock=some j:=h;simp [ownL,h2]
   ·exact .inr h
  have hml:∀ j∈mapL mv',j∈mapL mV∨W5.heap.size≤j:=fun j hj=>by
   have e:mv' = .map (some j):=by
    unfold mapL at hj;split at hj
    ·have e:j=_:=(by simpa using hj);rw [e]
    ·cases hj
   rcases hmap' j e with h | h
   ·left;have h2:mV=.map (some j):=h;simp [mapL,h2]
   ·exact .inr h
  have hgl:gg<W5.heap.size:=(qQA Hown5.out gg rfl).2;have hgt:∀ j∈ownL tv'++mapL mv',j≠gg:=fun j hj e=>by
   subst e;have hin:j∈ownL tV++mapL mV:=by
    rcases List.mem_append.1 hj with h | h
    ·rcases htl j h with q | q
     ·simp [q]
     ·omega
    ·rcases hml j h with q | q
     ·simp [q]
     ·omega
   rcases hgg with h | h
   ·exact (hap.2 j h).2 hin
   ·have:=(hfw j (by simp at hin ⊢;rcases hin with q | q <;> simp [q])).2;omega
  refine ⟨rfl,⟨tv',mv',.slice (some ⟨gg,0,none⟩) (sc.length+1) cap,⟨hcells',HV.out.low,?_,by rw [List.map_append];exact hset,by rw [List.length_append,List.length_singleton,List.map_append,oQI,List.map_append];exact hkind⟩,fun j hj=>?_⟩,ownL (.slice aS sc.length cS)++[S]++T,((k1.mono (by simp)).trans (Hk5.out.mono (fun i hi=>List.mem_append_left _ hi))).trans (kd5'.mono (fun i hi=>List.mem_append_right _ hi)),fun j hj=>?_⟩
  ·rw [List.nodup_append,List.nodup_append,List.nodup_append];refine ⟨⟨by simp,⟨rQG _,mapL_nodup _,fun a ha b hb e=>?_⟩,fun a ha b hb e=>?_⟩,rQG _,fun a ha b hb e=>?_⟩
   ·subst e;rcases hset.map with ⟨q,_⟩ | ⟨r,q,_,_,_,q5⟩
    ·rw [q] at hb;simp [mapL] at hb
    ·rw [q] at hb;simp [mapL] at hb;subst hb;exact q5 (by simpa [ownL] using ha)
   ·subst e;rcases List.mem_append.1 hb with h | h
    ·exact hset.rowA a (by simpa [ownL] using h) ha
    ·rcases hset.map with ⟨q,_⟩ | ⟨r,q,_,_,q4,_⟩
     ·rw [q] at h;simp [mapL] at h
     ·rw [q] at h;simp [mapL] at h;subst h;exact q4 ha
   ·subst e;have e2:a=gg:=(by simpa [ownL,Value.ownBlock] using hb);rcases List.mem_append.1 ha with h | h
    ·have e3:a=S:=(by simpa using h);exact hggS (by rw [←e2,e3])
    ·exact hgt a h e2
  ·rcases List.mem_append.1 hj with h | h
   ·rcases List.mem_append.1 h with h | h
    ·have e:j=S:=(by simpa using h);rw [e];exact .inl (Hlim.out S (by simp))
    ·rcases List.mem_append.1 h with h | h
     ·rcases htl j h with q | q
      ·exact .inl (Hlim.out j (by simp [q]))
      ·right;omega
     ·rcases hml j h with q | q
      ·exact .inl (Hlim.out j (by simp [q]))
      ·right;omega
   ·have e:j=gg:=(by simpa [ownL,Value.ownBlock] using h);rcases hgg with q | q
    ·left;rw [e];exact Hlim.out gg (List.mem_append_right _ q)
    ·right;omega
  ·rcases List.mem_append.1 hj with h | h
   ·rcases List.mem_append.1 h with h | h
    ·exact ⟨(hfw j (List.mem_append_right _ h)).1,Hlim.out j (List.mem_append_right _ h)⟩
    ·have e:j=S:=(by simpa using h);rw [e];exact ⟨HV.out.low,Hlim.out S (by simp)⟩
   ·exact ⟨(hfw j (List.mem_append_left _ (hT' j h))).1,Hlim.out j (List.mem_append_left _ (hT' j h))⟩
end
section
open Go.RowKit
def VarTo (base S B:Nat) (F:Nat→Prop) (z:Nat) (r:Except Flt (uQA×aQB)) (e:Ending) (w':World):Prop:=match r with
 | .error f=>e=gQC f.1 f.2
 | .ok (x,sc')=>e=.returned (.int .i64 x.num)∧x.isVar=true∧kQG w' base S B sc' (fun j=>F j∨z≤j)
theorem var_calls {w:World} {base S B:Nat} {sc:aQB} {F:Nat→Prop} (h:kQG w base S B sc F) (hbase:base≤w.heap.size) (m:Mean) (t:Tn) (hv:zQK t.g=true) (d:Nat) (hl:sc.length≤4):Calls prog 341 #[.pointer (some ⟨S,0,none⟩),tokV t,.int .i64 (d:Int)] w fun e w'=>VarTo base S B F w.heap.size (termS m sc t d) e w'∧∃ T,aQA T w w'∧∀ j∈T,base≤j∧F j:=by
 unfold termS;rw [if_pos hv];cases hp:yQB sc (txt t.g) with
 | some p=>
  simp only;obtain ⟨q,hq⟩:∃ q,sc[p]?=some q:=⟨_,List.getElem?_eq_getElem (gQE hp)⟩;rw [hq];simp only [Option.map_some,Option.getD_some];by_cases hd:q.2=d
  ·rw [if_neg (by simp [hd])];refine (var_ok h.to t d p hp hq hl hd).mono ?_;rintro e w' ⟨rfl,k⟩;exact ⟨⟨rfl,rfl,(h.keeps k (by simp)).mono (fun _ _ _ h=>.inl h)⟩,[],k,by simp⟩
  ·rw [if_pos hd];refine (var_bad h.to t d p hp hq hl hd).mono ?_;rintro e w' ⟨rfl,k⟩;exact ⟨rfl,[],k,by simp⟩
 | none=>
  simp only;by_cases h4:sc.length=4
  ·rw [if_pos h4];refine (var_many h.to t d hp h4).mono ?_;rintro e w' ⟨rfl,k⟩;exact ⟨rfl,[],k,by simp⟩
  ·rw [if_neg h4];refine (var_new h hbase t d hp h4 hl).mono ?_;rintro e w' ⟨rfl,hs,T,k,hT⟩;exact ⟨⟨rfl,rfl,hs⟩,T,k,hT⟩
def jQF (w:World) (base S B:Nat) (sc:aQB) (X:List Nat):Prop:=kQG w base S B sc (fun j=>j∉X)
def TermTo (base S B:Nat) (X:List Nat) (r:Except Flt (uQA×aQB)) (e:Ending) (w':World):Prop:=match r with
 | .error f=>e=gQC f.1 f.2
 | .ok (x,sc')=>e=.returned (.agg #[.bool x.isVar,.int .i64 x.num])∧jQF w' base S B sc' X
structure Res2 (w:World) (r:Nat) (a0 a1 x0 x1:Value):Prop where
 c0:w.cell? ⟨r,0,none⟩=some a0
 f0:w.frozen? ⟨r,0,none⟩=false
 c1:(w.setCell ⟨r,0,none⟩ x0).cell? ⟨r,1,none⟩=some a1
 f1:(w.setCell ⟨r,0,none⟩ x0).frozen? ⟨r,1,none⟩=false
 at_:cQA ((w.setCell ⟨r,0,none⟩ x0).setCell ⟨r,1,none⟩ x1) r #[x0,x1]
 keep:aQA [r] w ((w.setCell ⟨r,0,none⟩ x0).setCell ⟨r,1,none⟩ x1)
theorem res2 {w:World} {r:Nat} {a0 a1:Value} (h:cQA w r #[a0,a1]) (x0 x1:Value):Res2 w r a0 a1 x0 x1:=by
 have h1:=h.setCell 0 x0;have h2:=h1.setCell 1 x1;exact ⟨h.cell 0,h.frozen 0,h1.cell 1,h1.frozen 1,h2,(aQA.setCell w ⟨r,0,none⟩ x0).trans (aQA.setCell (w.setCell ⟨r,0,none⟩ x0) ⟨r,1,none⟩ x1)⟩
theorem size220:(prog.info? 220).map (·.size)=some 2:=by kernel_rfl
theorem term_var {w:World} {base S B:Nat} {sc:aQB} {X:List Nat} (h0:jQF w base S B sc X) (hX:∀ j∈X,j<w.heap.size) (hbase:base≤w.heap.size) (m:Mean) (t:Tn) (hv:zQK t.g=true) (d:Nat) (hl:sc.length≤4):Calls prog 340 #[.pointer (some ⟨S,0,none⟩),tokV t,.int .i64 (d:Int)] w fun e w'=>TermTo base S B X (termS m sc t d) e w'∧∃ T,aQA T w w'∧∀ j∈T,base≤j∧j∉X:=by
 have h:kQG w base S B sc (fun j=>j∉X∧j<w.heap.size):=h0.mono (fun j _ h2 h3=>⟨h3,h2⟩);have hkind:((eQA t.g).toList == [86,65,82])=true:=by cases hg:t.g <;> rw [hg] at hv <;> first | (show (strVar.toList == [86,65,82])=true;rw [toList_beq];decide) | cases hv
 have kA:=aQA.alloc [] w (.cells #[.string (eQA t.g),.string (txt t.g),.int .i64 t.line] 129);have kB:=aQA.alloc [] (w.alloc (.cells #[.string (eQA t.g),.string (txt t.g),.int .i64 t.line] 129)) (.cells #[.bool false,.int .i64 0] 220);have hR:=cQA.new (w.alloc (.cells #[.string (eQA t.g),.string (txt t.g),.int .i64 t.line] 129)) #[.bool false,.int .i64 0] 220;rw [dQA] at hR;have hvc:=hide (var_calls (w:=((w.alloc (.cells #[.string (eQA t.g),.string (txt t.g),.int .i64 t.line] 129)).alloc (.cells #[.bool false,.int .i64 0] 220))) (h.keeps (kA.trans kB) (by simp)) (by rw [dQA,dQA];omega) m t hv d hl);have hSl:S<w.heap.size:=by obtain ⟨_,_,_,hV,_⟩:=h;exact hV.cells.lt
 have kAB:=kA.trans kB;have HX:=hide hX;clear h h0 hX;cases hr:termS m sc t d with
 | error f=>
  rw [hr] at hvc;clear hR kA kB;unfold tokV;go_enter func340,ntmps340
  go_wp2_with fail
  refine hvc.out.mono ?_;rintro e w1 ⟨rfl,T,k1,hT⟩;exact ⟨rfl,rfl,T,(kAB.mono (by simp)).trans k1,fun j hj=>⟨(hT j hj).1,(hT j hj).2.1⟩⟩
 | ok q=>
  obtain ⟨x,sc'⟩:=q;rw [hr] at hvc;clear kA kB;unfold tokV;go_enter func340,ntmps340
  go_wp2_with fail
  refine hvc.out.mono ?_;rintro e w1 ⟨⟨rfl,hx,hs⟩,T,k1,hT⟩;obtain ⟨c0,f0,c1,f1,hat,hk⟩:=res2 (hR.keeps k1 (fun hx=>by have:=(hT _ hx).2.2;omega)) (.bool true) (.int .i64 x.num);have Hat:=hide hat;have Hk:=hide hk;have Hs:=hide hs;have Hw:=hide hx;have hs1:=k1.size;clear hat hk hs hx;go_wp2_with fail
  refine bodyPost_ret (v:=.agg #[.bool true,.int .i64 x.num]) (yQD (p:=6) (ty:=220) (by kernel_rfl) _ Hat.out underlying220 size220 rfl) rfl ⟨⟨by rw [Hw.out],?_⟩,T,((kAB.mono (by simp)).trans k1).trans_new Hk.out (fun j hj=>?_),fun j hj=>⟨(hT j hj).1,(hT j hj).2.1⟩⟩
  ·refine (Hs.out.keeps Hk.out (fun j hj=>?_)).mono (fun j _ _ h2 hx=>?_)
   ·have e:j=w.heap.size+1:=(by simpa using hj);rintro (q | q)
    ·omega
    ·rw [dQA,dQA] at q;omega
   ·rcases h2 with q | q
    ·exact q.1 hx
    ·have:=HX.out j hx;rw [dQA,dQA] at q;omega
  ·have e:j=w.heap.size+1:=(by simpa using hj);right;omega
end
end Go.Proofs.YtgjomknpjigkhaaGreatDoor
