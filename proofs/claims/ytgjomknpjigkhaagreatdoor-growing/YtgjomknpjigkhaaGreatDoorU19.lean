import Derived.Test.YtgjomknpjigkhaaGreatDoorU18
import Derived.Deep.RegionHeld3
import Derived.Deep.QuietTactic
namespace Go.Proofs.YtgjomknpjigkhaaGreatDoor
open Go.Proofs.Tryz
set_option maxRecDepth 100000
set_option maxHeartbeats 4000000
section
open Go.RowKit
theorem mean_size {w:World} {mb B:Nat} {m:Mean} (h:jQB w mb B m) {d:Nat} (hd:d<m.doms.length):∃ gk ck,gk<w.heap.size∧B<w.heap.size∧∀ {W:World},aQA [] w W→W.cell? ⟨B,2,none⟩=some (.slice (some ⟨gk,0,none⟩) m.doms.length ck)∧W.cell? ⟨gk,d,none⟩=some (.int .i64 (m.size d)):=by
 obtain ⟨tD,mD,sz,tN,mN,co,cl,ln,cvs,kvs,hV⟩:=h;obtain ⟨ak,ck,hk⟩:=fQA hV.sizes;subst hk;obtain ⟨gk,hgk⟩:=aQC hV.sizes (by omega);subst hgk;refine ⟨gk,ck,(qQA hV.sizes gk rfl).2,hV.cells.lt,fun k=>⟨by rw [(hV.cells.keeps k (by simp)).cell];rfl,yQG (bQA hV.sizes k (by simp)) ?_⟩⟩;obtain ⟨q,hq⟩:∃ q,m.doms[d]?=some q:=⟨_,List.getElem?_eq_getElem hd⟩;simp [bQI,hq,Mean.size]
set_option maxHeartbeats 8000000 in
theorem term_int_ok {w:World} {base S B mb:Nat} {sc:aQB} {m:Mean} (hm:jQB w mb B m) (h:yQI w base S B sc) (t:Tn) {s:ByteArray} (hg:t.g=.int s) (hw:WfG t.g) (d:Nat) (hd:d<m.doms.length) (hlt:¬ m.size d≤yQC t.g):Calls prog 340 #[.pointer (some ⟨S,0,none⟩),tokV t,.int .i64 (d:Int)] w fun e w'=>e=.returned (.agg #[.bool false,.int .i64 (yQC t.g)])∧aQA [] w w':=by
 have hkind:((eQA t.g).toList == [86,65,82])=false:=by rw [hg];show (strInt.toList == [86,65,82])=false;rw [toList_beq];decide
 have hval:=hide (fun (w:World)=>eQL (w:=w) t s hg hw);have hno:=hide (fun (w:World)=>iQC (w:=w) t 9);have kA:=aQA.alloc [] w (.cells #[.string (eQA t.g),.string (txt t.g),.int .i64 t.line] 129);have kB:=aQA.alloc [] (w.alloc (.cells #[.string (eQA t.g),.string (txt t.g),.int .i64 t.line] 129)) (.cells #[.bool false,.int .i64 0] 220);have hT:=(cQA.new w #[.string (eQA t.g),.string (txt t.g),.int .i64 t.line] 129).keeps kB (by simp);have hR:=cQA.new (w.alloc (.cells #[.string (eQA t.g),.string (txt t.g),.int .i64 t.line] 129)) #[.bool false,.int .i64 0] 220;rw [dQA] at hR;obtain ⟨gk,ck,hgl,hBl,hsz⟩:=mean_size hm hd;obtain ⟨tV,mV,kd,hV⟩:=h;have hSl:=hV.cells.lt;have hS0:∀ {W:World},aQA [] w W→W.cell? ⟨S,0,none⟩=some (.pointer (some ⟨B,0,none⟩)):=fun k=>by rw [(hV.cells.keeps k (by simp)).cell];rfl
 have hge:decide (m.size d≤yQC t.g)=false:=decide_eq_false hlt;have hdI:(d:Int)<m.doms.length:=by omega
 have kAB:=kA.trans kB;have H1:Hid (∀ {W:World},aQA [] w W→cQA W w.heap.size #[.string (eQA t.g),.string (txt t.g),.int .i64 t.line]→(W.cell? ⟨S,0,none⟩=some (.pointer (some ⟨B,0,none⟩))∧W.cell? ⟨B,2,none⟩=some (.slice (some ⟨gk,0,none⟩) m.doms.length ck)∧W.cell? ⟨gk,d,none⟩=some (.int .i64 (m.size d))∧W.cell? ⟨w.heap.size,0,none⟩=some (.string (eQA t.g))∧W.cell? ⟨w.heap.size,1,none⟩=some (.string (txt t.g))∧W.cell? ⟨w.heap.size,2,none⟩=some (.int .i64 t.line))):=fun k hc=>⟨hS0 k,(hsz k).1,(hsz k).2,hc.cell 0,hc.cell 1,hc.cell 2⟩;clear hV hS0 hsz hlt hg hw hm kA kB;generalize hWW:(w.alloc (.cells #[.string (eQA t.g),.string (txt t.g),.int .i64 t.line] 129)).alloc (.cells #[.bool false,.int .i64 0] 220)=W at *;have hT2:=hT.keeps (aQA.drew [] W) (by simp);have k2:=kAB.trans (aQA.drew [] W);have F1:=H1.out k2 hT2;have hT3:=hT2.keeps (aQA.alloc [] W.drew (.cells #[.string (eQA t.g),.string (txt t.g),.int .i64 t.line] 129)) (by simp);have k3:=k2.trans (aQA.alloc [] W.drew (.cells #[.string (eQA t.g),.string (txt t.g),.int .i64 t.line] 129));have F2:=H1.out k3 hT3;have hT4:=hT3.keeps (aQA.alloc [] _ (.cells #[.string (eQA t.g),.string (txt t.g),.int .i64 t.line] 129)) (by simp);have k4:=k3.trans (aQA.alloc [] _ (.cells #[.string (eQA t.g),.string (txt t.g),.int .i64 t.line] 129));have F3:=H1.out k4 hT4;subst hWW;unfold tokV;go_enter func340,ntmps340
 go_wp2_with fail
 go_region_held3 (fun w'=>w'.cell? ⟨S,0,none⟩=some (.pointer (some ⟨B,0,none⟩))∧w'.cell? ⟨B,2,none⟩=some (.slice (some ⟨gk,0,none⟩) m.doms.length ck)∧w'.cell? ⟨gk,d,none⟩=some (.int .i64 (m.size d))∧w'.cell? ⟨w.heap.size,0,none⟩=some (.string (eQA t.g))∧w'.cell? ⟨w.heap.size,1,none⟩=some (.string (txt t.g))∧w'.cell? ⟨w.heap.size,2,none⟩=some (.int .i64 t.line)) (first | exact F1 | exact F2 | exact F3) (first
  | (go_at_call 140
     refine (hval.out _).mono ?_
     rintro e w1 ⟨rfl,rfl⟩)
  | (go_at_call 335
     refine (hno.out _).mono ?_
     rintro e w1 ⟨rfl,rfl⟩))
 have hRX:cQA ((((w.alloc (.cells #[.string (eQA t.g),.string (txt t.g),.int .i64 t.line] 129)).alloc (.cells #[.bool false,.int .i64 0] 220)).alloc (.cells #[.string (eQA t.g),.string (txt t.g),.int .i64 t.line] 129)).alloc (.cells #[.string (eQA t.g),.string (txt t.g),.int .i64 t.line] 129)).drew (w.heap.size+1) #[.bool false,.int .i64 0]:=((hR.keeps (aQA.alloc [] _ (.cells #[.string (eQA t.g),.string (txt t.g),.int .i64 t.line] 129)) (by simp)).keeps (aQA.alloc [] _ (.cells #[.string (eQA t.g),.string (txt t.g),.int .i64 t.line] 129)) (by simp)).keeps (aQA.drew [] _) (by simp);have hTX:cQA ((((w.alloc (.cells #[.string (eQA t.g),.string (txt t.g),.int .i64 t.line] 129)).alloc (.cells #[.bool false,.int .i64 0] 220)).alloc (.cells #[.string (eQA t.g),.string (txt t.g),.int .i64 t.line] 129)).alloc (.cells #[.string (eQA t.g),.string (txt t.g),.int .i64 t.line] 129)).drew w.heap.size #[.string (eQA t.g),.string (txt t.g),.int .i64 t.line]:=((hT.keeps (aQA.alloc [] _ (.cells #[.string (eQA t.g),.string (txt t.g),.int .i64 t.line] 129)) (by simp)).keeps (aQA.alloc [] _ (.cells #[.string (eQA t.g),.string (txt t.g),.int .i64 t.line] 129)) (by simp)).keeps (aQA.drew [] _) (by simp);have kX:aQA [] w ((((w.alloc (.cells #[.string (eQA t.g),.string (txt t.g),.int .i64 t.line] 129)).alloc (.cells #[.bool false,.int .i64 0] 220)).alloc (.cells #[.string (eQA t.g),.string (txt t.g),.int .i64 t.line] 129)).alloc (.cells #[.string (eQA t.g),.string (txt t.g),.int .i64 t.line] 129)).drew:=((kAB.trans (aQA.alloc [] _ (.cells #[.string (eQA t.g),.string (txt t.g),.int .i64 t.line] 129))).trans (aQA.alloc [] _ (.cells #[.string (eQA t.g),.string (txt t.g),.int .i64 t.line] 129))).trans (aQA.drew [] _);clear F1 F2 F3 hT2 hT3 hT4 k2 k3 k4 H1 hR hT kAB;generalize ((((w.alloc (.cells #[.string (eQA t.g),.string (txt t.g),.int .i64 t.line] 129)).alloc (.cells #[.bool false,.int .i64 0] 220)).alloc (.cells #[.string (eQA t.g),.string (txt t.g),.int .i64 t.line] 129)).alloc (.cells #[.string (eQA t.g),.string (txt t.g),.int .i64 t.line] 129)).drew=Y at *;have d0:=hTX.cell 0;have d1:=hTX.cell 1;have d2:=hTX.cell 2;go_wp2_with fail
 refine (hval.out _).mono ?_;rintro e w5 ⟨rfl,rfl⟩;have hR5:=hRX.keeps (aQA.alloc [] Y (.cells #[.string (eQA t.g),.string (txt t.g),.int .i64 t.line] 129)) (by simp);have k5:=kX.trans (aQA.alloc [] Y (.cells #[.string (eQA t.g),.string (txt t.g),.int .i64 t.line] 129));generalize Y.alloc (.cells #[.string (eQA t.g),.string (txt t.g),.int .i64 t.line] 129)=Z at *;obtain ⟨c0,f0,c1,f1,hat,hk⟩:=res2 hR5 (.bool false) (.int .i64 (yQC t.g));have Hat:=hide hat;have Hk:=hide hk;clear hat hk hR5 hRX hTX d0 d1 d2;go_wp2_with fail
 exact bodyPost_ret (v:=.agg #[.bool false,.int .i64 (yQC t.g)]) (yQD (p:=6) (ty:=220) (by kernel_rfl) _ Hat.out underlying220 size220 rfl) rfl ⟨rfl,k5.trans_new Hk.out (by simp)⟩
set_option maxHeartbeats 8000000 in
theorem term_int_bad {w:World} {base S B mb:Nat} {sc:aQB} {m:Mean} (hm:jQB w mb B m) (h:yQI w base S B sc) (t:Tn) {s:ByteArray} (hg:t.g=.int s) (hw:WfG t.g) (d:Nat) (hd:d<m.doms.length) (hlt:m.size d≤yQC t.g):Calls prog 340 #[.pointer (some ⟨S,0,none⟩),tokV t,.int .i64 (d:Int)] w fun e w'=>e=gQC 9 t.line∧aQA [] w w':=by
 have hkind:((eQA t.g).toList == [86,65,82])=false:=by rw [hg];show (strInt.toList == [86,65,82])=false;rw [toList_beq];decide
 have hval:=hide (fun (w:World)=>eQL (w:=w) t s hg hw);have hyes:=hide (fun (w:World)=>dQC (w:=w) t 9);have kA:=aQA.alloc [] w (.cells #[.string (eQA t.g),.string (txt t.g),.int .i64 t.line] 129);have kB:=aQA.alloc [] (w.alloc (.cells #[.string (eQA t.g),.string (txt t.g),.int .i64 t.line] 129)) (.cells #[.bool false,.int .i64 0] 220);obtain ⟨gk,ck,hgl,hBl,hsz⟩:=mean_size hm hd;obtain ⟨tV,mV,kd,hV⟩:=h;have hSl:=hV.cells.lt;have hS0:∀ {W:World},aQA [] w W→W.cell? ⟨S,0,none⟩=some (.pointer (some ⟨B,0,none⟩)):=fun k=>by rw [(hV.cells.keeps k (by simp)).cell];rfl
 have hge:decide (m.size d≤yQC t.g)=true:=decide_eq_true hlt;have hdI:(d:Int)<m.doms.length:=by omega
 have k2:aQA [] w ((w.alloc (.cells #[.string (eQA t.g),.string (txt t.g),.int .i64 t.line] 129)).alloc (.cells #[.bool false,.int .i64 0] 220)).drew:=(kA.trans kB).trans (aQA.drew [] _);have k3:=k2.trans (aQA.alloc [] _ (.cells #[.string (eQA t.g),.string (txt t.g),.int .i64 t.line] 129));have a1:=hS0 (kA.trans kB);obtain ⟨a2,a3⟩:=hsz (kA.trans kB);have b1:=hS0 ((kA.trans kB).trans (aQA.alloc [] _ (.cells #[.string (eQA t.g),.string (txt t.g),.int .i64 t.line] 129)));obtain ⟨b2,b3⟩:=hsz ((kA.trans kB).trans (aQA.alloc [] _ (.cells #[.string (eQA t.g),.string (txt t.g),.int .i64 t.line] 129)));clear hV hS0 hsz hlt hg hw hm kA kB;unfold tokV;go_enter func340,ntmps340
 go_wp2_with fail
 go_region_law (first
  | (refine kQA rfl 140 _ _ rfl _ func140 (by kernel_rfl) (by kernel_rfl) [tokV t] rfl ?_
     refine (hval.out _).mono ?_
     rintro e w1 ⟨rfl,rfl⟩)
  | (refine zQF rfl 335 _ _ rfl _ func335 (by kernel_rfl) (by kernel_rfl) [tokV t,.bool true,.int .i64 9] rfl ?_ ?_
     ·refine (hyes.out _).mono ?_;rintro e w1 ⟨rfl,rfl⟩;exact ⟨rfl,rfl,k3.trans (aQA.alloc [] _ _)⟩
     intro hf))
 all_goals exact (hf.out).elim
end
section
open Go.RowKit
theorem termM_calls {w:World} {base S B mb:Nat} {sc:aQB} {m:Mean} {X:List Nat} (hm:jQB w mb B m) (h:jQF w base S B sc X) (hX:∀ j∈X,j<w.heap.size) (hbase:base≤w.heap.size) (t:Tn) (ht:zQA t.g=true) (hw:WfG t.g) (d:Nat) (hd:d<m.doms.length) (hl:sc.length≤4):Calls prog 340 #[.pointer (some ⟨S,0,none⟩),tokV t,.int .i64 (d:Int)] w fun e w'=>TermTo base S B X (termS m sc t d) e w'∧∃ T,aQA T w w'∧∀ j∈T,base≤j∧j∉X:=by
 cases hg:t.g with
 | var s=>exact term_var h hX hbase m t (by rw [hg];rfl) d hl
 | int s=>
  unfold termS;rw [if_neg (by rw [hg];exact Bool.false_ne_true)];by_cases hlt:m.size d≤yQC t.g
  ·rw [if_pos hlt];refine (term_int_bad hm h.to t hg hw d hd hlt).mono ?_;rintro e w' ⟨rfl,k⟩;exact ⟨rfl,[],k,by simp⟩
  ·rw [if_neg hlt];refine (term_int_ok hm h.to t hg hw d hd hlt).mono ?_;rintro e w' ⟨rfl,k⟩;exact ⟨⟨rfl,h.keeps k (by simp)⟩,[],k,by simp⟩
 | _=>rw [hg] at ht;cases ht
theorem mean_col {w:World} {mb B:Nat} {m:Mean} (h:jQB w mb B m) {r:Nat} {s:ByteArray} {ds:List Nat} (hr:m.rels[r]?=some (s,ds)):∃ gc cc av cv,gc<w.heap.size∧(∀ d∈ds,∃ g,av=some ⟨g,0,none⟩∧g<w.heap.size)∧∀ {W:World},aQA [] w W→W.cell? ⟨B,5,none⟩=some (.slice (some ⟨gc,0,none⟩) m.rels.length cc)∧W.cell? ⟨gc,r,none⟩=some (.slice av ds.length cv)∧∀ (i d g:Nat),ds[i]?=some d→av=some ⟨g,0,none⟩→W.cell? ⟨g,i,none⟩=some (.int .i64 (d:Int)):=by
 obtain ⟨tD,mD,sz,tN,mN,co,cl,ln,cvs,kvs,hV⟩:=h;obtain ⟨ak,ck,hk⟩:=fQA hV.cols;subst hk;have hrl:r<m.rels.length:=by
  rcases Nat.lt_or_ge r m.rels.length with h | h
  ·exact h
  ·rw [List.getElem?_eq_none h] at hr;cases hr
 obtain ⟨gk,hgk⟩:=aQC hV.cols (by omega);subst hgk;obtain ⟨v,hv,hrow,_⟩:=hV.colsA.at hr;obtain ⟨av,cv,rfl⟩:=fQA hrow;refine ⟨gk,ck,av,cv,(qQA hV.cols gk rfl).2,fun d hd=>?_,fun k=>⟨by rw [(hV.cells.keeps k (by simp)).cell];rfl,yQG (bQA hV.cols k (by simp)) hv,fun i d g hd hg=>?_⟩⟩
 ·have hpos:0<ds.length:=List.length_pos_of_mem hd;obtain ⟨g,hg⟩:=aQC hrow hpos;subst hg;exact ⟨g,rfl,(qQA hrow g rfl).2⟩
 ·subst hg;refine yQG (bQA hrow k (by simp)) ?_;simp [oQI,hd]
theorem mean_place {w:World} {mb B:Nat} {m:Mean} (h:jQB w mb B m) (s:ByteArray) {W:World} (k:aQA [] w W):Calls prog 77 #[.pointer (some ⟨B,3,none⟩),.string s] W fun e w'=>e=.returned (.tuple #[.int .i64 ((m.rel s).getD 0:Nat),.bool (m.rel s).isSome])∧w' = W:=by
 obtain ⟨tD,mD,sz,tN,mN,co,cl,ln,cvs,kvs,hV⟩:=h;have:=iQD (B:=B) (o:=3) ((hV.keeps k (by simp)).names) (by rw [(hV.cells.keeps k (by simp)).cell];rfl) s;rw [vQA] at this;exact this
theorem sQL {w:World} {mb B:Nat} {m:Mean} (h:jQB w mb B m):B<w.heap.size:=by
 obtain ⟨tD,mD,sz,tN,mN,co,cl,ln,cvs,kvs,hV⟩:=h;exact hV.cells.lt
theorem scope_head {w:World} {base S B:Nat} {sc:aQB} (h:yQI w base S B sc):S<w.heap.size∧∀ {W:World},aQA [] w W→W.cell? ⟨S,0,none⟩=some (.pointer (some ⟨B,0,none⟩)):=by
 obtain ⟨tV,mV,kd,hV⟩:=h;exact ⟨hV.cells.lt,fun k=>by rw [(hV.cells.keeps k (by simp)).cell];rfl⟩
theorem atom_none {w:World} {base S B mb:Nat} {sc:aQB} {m:Mean} (hm:jQB w mb B m) (h:yQI w base S B sc) (n:Tn) (av:Option Addr) (cn cc:Nat) (hr:m.rel (txt n.g)=none):Calls prog 339 #[.pointer (some ⟨S,0,none⟩),.agg #[.string (eQA n.g),.string (txt n.g),.int .i64 n.line,.slice av cn cc]] w fun e w'=>e=gQC 8 n.line∧aQA [] w w':=by
 obtain ⟨hSl,hS⟩:=scope_head h;have hBl:=sQL hm;have hpl:=hide (fun (W:World) (k:aQA [] w W)=>mean_place hm (txt n.g) k);rw [hr] at hpl;have kA:=aQA.alloc [] w (.cells #[.string (eQA n.g),.string (txt n.g),.int .i64 n.line,.slice av cn cc] 327);have kB:=kA.trans (aQA.alloc [] _ (.cells #[.int .i64 0,.slice none 0 0] 151));have hA:=(cQA.new w #[.string (eQA n.g),.string (txt n.g),.int .i64 n.line,.slice av cn cc] 327).keeps (aQA.alloc [] _ (.cells #[.int .i64 0,.slice none 0 0] 151)) (by simp);have s0:=hS kB;have a0:=hA.cell 0;have a1:=hA.cell 1;have a2:=hA.cell 2;have hy:=hide (fun (w:World)=>dQC (w:=w) n 8);clear hm h hS hr;go_enter func339,ntmps339
 go_wp2_with fail
 go_quiet (first | (go_at_call 77;exact (hpl.out _ (kB.trans (aQA.drewN _ _ _))).mono fun _ _ h=>⟨h.1,_,h.2⟩))
 go_wp2_with fail
 refine (hy.out _).mono ?_;rintro e w3 ⟨rfl,rfl⟩;exact ⟨rfl,rfl,(kB.trans (aQA.drewN _ _ _)).trans (aQA.alloc [] _ _)⟩
theorem atom_arity {w:World} {base S B mb:Nat} {sc:aQB} {m:Mean} (hm:jQB w mb B m) (h:yQI w base S B sc) (n:Tn) (av:Option Addr) (cn cc:Nat) {r:Nat} (hr:m.rel (txt n.g)=some r) {s:ByteArray} {ds:List Nat} (hrs:m.rels[r]?=some (s,ds)) (hne:cn≠ds.length):Calls prog 339 #[.pointer (some ⟨S,0,none⟩),.agg #[.string (eQA n.g),.string (txt n.g),.int .i64 n.line,.slice av cn cc]] w fun e w'=>e=gQC 10 n.line∧aQA [] w w':=by
 obtain ⟨hSl,hS⟩:=scope_head h;have hBl:=sQL hm;have hpl:=hide (fun (W:World) (k:aQA [] w W)=>mean_place hm (txt n.g) k);rw [hr] at hpl;obtain ⟨gc,cc',av',cv',hgl,_,hcols⟩:=mean_col hm hrs;have hrl':r<m.rels.length:=gQE hr;have kA:=aQA.alloc [] w (.cells #[.string (eQA n.g),.string (txt n.g),.int .i64 n.line,.slice av cn cc] 327);have kB:=kA.trans (aQA.alloc [] _ (.cells #[.int .i64 0,.slice none 0 0] 151));have hA:=(cQA.new w #[.string (eQA n.g),.string (txt n.g),.int .i64 n.line,.slice av cn cc] 327).keeps (aQA.alloc [] _ (.cells #[.int .i64 0,.slice none 0 0] 151)) (by simp);have s0:=hS kB;have a0:=hA.cell 0;have a1:=hA.cell 1;have a2:=hA.cell 2;have hno:=hide (fun (w:World)=>iQC (w:=w) n 8);have hy:=hide (fun (w:World)=>dQC (w:=w) n 10);have Hc:=hide (fun (W:World) (k:aQA [] w W)=>(⟨(hcols k).1,(hcols k).2.1⟩:_∧_));have HS:=hide (fun (W:World) (k:aQA [] w W)=>hS k);have HA:=hide (fun (W:World) (k:aQA [] ((w.alloc (.cells #[.string (eQA n.g),.string (txt n.g),.int .i64 n.line,.slice av cn cc] 327)).alloc (.cells #[.int .i64 0,.slice none 0 0] 151)) W)=>hA.keeps k (by simp));have hneI:((cn:Int) != (ds.length:Int))=true:=by rw [bne_iff_ne];omega
 have hrI:(r:Int)<m.rels.length:=by omega
 clear hm h hS hr hcols hA hne;go_enter func339,ntmps339
 go_wp2_with fail
 go_quiet (first | (go_at_call 77;exact (hpl.out _ (kB.trans (aQA.drewN _ _ _))).mono fun _ _ h=>⟨h.1,_,h.2⟩))
 go_wp2_with fail
 refine (hno.out _).mono ?_;rintro e w3 ⟨rfl,rfl⟩;generalize hWW:((w.alloc (.cells #[.string (eQA n.g),.string (txt n.g),.int .i64 n.line,.slice av cn cc] 327)).alloc (.cells #[.int .i64 0,.slice none 0 0] 151))=W1 at *;have k3:=(aQA.drewN [] W1 nq).trans (aQA.alloc [] _ (.cells #[.string (eQA n.g),.string (txt n.g),.int .i64 n.line] 129));have kw3:=kB.trans k3;have hA3:=HA.out _ k3;obtain ⟨c5,cr⟩:=Hc.out _ kw3;have s3:=HS.out _ kw3;generalize (W1.drewN nq).alloc (.cells #[.string (eQA n.g),.string (txt n.g),.int .i64 n.line] 129)=W3 at *;have b0:=hA3.cell 0;have b1:=hA3.cell 1;have b2:=hA3.cell 2;have b3:=hA3.cell 3;go_wp2_with fail
 refine (hy.out _).mono ?_;rintro e w4 ⟨rfl,rfl⟩;exact ⟨rfl,rfl,kw3.trans (aQA.alloc [] _ _)⟩
end
section
open Go.RowKit
theorem info220:(prog.info? 220).map (fun i=>(i.zero,i.size,i.bytes))=some (some (.agg #[.bool false,.int .i64 0]),2,16):=by kernel_rfl
theorem size151:(prog.info? 151).map (·.size)=some 2:=by kernel_rfl
theorem step_dies2 {ops : Array Oper} {o : Oper} {a : Act} {w : World} {K : Act → World → Prop} {Q : Exit → Act → World → Prop} {E : Prop} (hg : o.guard = none) (f : Nat) (xs : Array Operand) (tys : Array TypeId) (hop : o.op = .call { callee := .value (.func f), args := xs, argTypes := tys }) (fn : Func) (hf : prog.funcs[f]? = some fn) (hname : (fn.name == "runtime.NumGoroutine") = false) (hbody : fn.body.isNone = false) (vs : List Value) (hx : xs.toList.map a.eval = vs) (u : Value)
  (h:Calls prog f vs.toArray w fun
   | .returned _,_=>False
   | .panicked chain,w''=>Q (.panic chain) a w''
   | .outgrown,_=>LetsOut Q) (_:Hid False→K (a.put o.dst u) w):if Region.wanted o (yielded ops a.tmps)=true then Oper.wp prog o a w K Q else E:=by
 refine kQA hg f xs tys hop fn hf hname hbody vs hx (h.mono ?_);intro e w' he;cases e <;> first | exact he | exact he.elim
theorem step_void {ops:Array Oper} {o:Oper} {a:Act} {w:World} {K:Act→World→Prop} {Q:Exit→Act→World→Prop} {E:Prop} (hf:Hid False) (u:Value) (_:K (a.put o.dst u) w):if Region.wanted o (yielded ops a.tmps)=true then Oper.wp prog o a w K Q else E:=hf.out.elim
def aheadX (d:List uQA):Except Flt (List uQA×aQB)→Except Flt (List uQA×aQB)
 | .ok (r,sc)=>.ok (d++r,sc)
 | .error f=>.error f
structure AtL (w wr:World) (base S B D:Nat) (X:List Nat) (n:Tn) (tav:Value) (r:Nat) (sc:aQB) (xs:List uQA) (tv:Value):Prop where
 arg:cQA wr w.heap.size #[.string (eQA n.g),.string (txt n.g),.int .i64 n.line,tav]
 res:cQA wr (w.heap.size+1) #[.int .i64 0,.slice none 0 0]
 at_:cQA wr D #[.int .i64 (r:Int),tv]
 row:wr.ownsRow w.heap.size 220 2 tv xs.length (pQD xs)
 rowA:∀ j∈ownL tv,j∉[w.heap.size,w.heap.size+1,D]
 sc:jQF wr base S B sc (X++[w.heap.size,w.heap.size+1,D]++ownL tv)
 keep:∃ T,aQA T w wr∧∀ j∈T,base≤j∧j∉X
 low:w.heap.size+2≤D
theorem AtL.lt {w wr:World} {base S B D:Nat} {X:List Nat} {n:Tn} {tav:Value} {r:Nat} {sc:aQB} {xs:List uQA} {tv:Value} (h:AtL w wr base S B D X n tav r sc xs tv) (hX:∀ j∈X,j<w.heap.size):∀ j∈X++[w.heap.size,w.heap.size+1,D]++ownL tv,j<wr.heap.size:=fun j hj=>by
 obtain ⟨T,k,_⟩:=h.keep;have hs:=k.size;have h1:=h.res.lt;have h2:=h.at_.lt;simp only [List.mem_append,List.mem_cons,List.not_mem_nil,or_false] at hj;rcases hj with (hj | hj | hj | hj) | hj
 ·have:=hX j hj;omega
 ·omega
 ·omega
 ·omega
 ·exact (jQC h.row j hj).2
theorem AtL.step {w wr w4 w5:World} {base S B D:Nat} {X:List Nat} {n:Tn} {tav:Value} {r:Nat} {sc sc':aQB} {xs:List uQA} {tv:Value} {x:uQA} {T4:List Nat} (h:AtL w wr base S B D X n tav r sc xs tv) (hX:∀ j∈X,j<w.heap.size) (k4:aQA T4 wr w4) (hT4:∀ j∈T4,base≤j∧j∉X++[w.heap.size,w.heap.size+1,D]++ownL tv) (hs4:jQF w4 base S B sc' (X++[w.heap.size,w.heap.size+1,D]++ownL tv)) {o:Obj} (hgrow:(w4.alloc o).grownBy w5 tv.ownBlock) {gg cap:Nat} (hown:w5.ownsRow w.heap.size 220 2 (.slice (some ⟨gg,0,none⟩) (xs.length+1) cap) (xs.length+1) (pQD xs++termC x)) (hat:tv.ownBlock=some gg∨gg=w4.heap.size+1):AtL w (w5.setCell ⟨D,1,none⟩ (.slice (some ⟨gg,0,none⟩) (xs.length+1) cap)) base S B D X n tav r sc' (xs++[x]) (.slice (some ⟨gg,0,none⟩) (xs.length+1) cap):=by
 have hL:=h.lt hX;have k5:=grownBy_keeps' hgrow (ownL tv) (fun r e=>.inl (by simp [ownL,e]));have kA:=aQA.alloc [] w4 o;have ks:=aQA.setCell w5 ⟨D,1,none⟩ (.slice (some ⟨gg,0,none⟩) (xs.length+1) cap);have hD:=h.at_.lt;have hR:=h.res.lt;have hs4z:=k4.size;have hgg:gg∈ownL tv∨gg=w4.heap.size+1:=by
  rcases hat with q | q
  ·left;simp [ownL,q]
  ·exact .inr q
 have hggn:gg∉[w.heap.size,w.heap.size+1,D]:=by
  rcases hgg with q | q
  ·exact h.rowA gg q
  ·have hl:=h.low;simp;omega
 have nT:∀ j∈[w.heap.size,w.heap.size+1,D],j∉T4∧j∉ownL tv:=fun j hj=>⟨fun q=>(hT4 j q).2 (List.mem_append_left _ (List.mem_append_right _ hj)),fun q=>h.rowA j q hj⟩;have go:∀ {j:Nat} {cs:Array Value},j∈[w.heap.size,w.heap.size+1]→cQA wr j cs→cQA (w5.setCell ⟨D,1,none⟩ (.slice (some ⟨gg,0,none⟩) (xs.length+1) cap)) j cs:=fun {j cs} hj hc=>by
  have hj':j∈[w.heap.size,w.heap.size+1,D]:=by simp at hj ⊢;omega
  have hl:=h.low;exact (((hc.keeps k4 (nT j hj').1).keeps kA (by simp)).keeps k5 (nT j hj').2).keeps ks (by simp at hj ⊢;omega)
 have hDD:D∈[w.heap.size,w.heap.size+1,D]:=by simp
 have hat4:=(((h.at_.keeps k4 (nT D hDD).1).keeps kA (by simp)).keeps k5 (nT D hDD).2).setCell 1 (.slice (some ⟨gg,0,none⟩) (xs.length+1) cap);refine ⟨go (by simp) h.arg,go (by simp) h.res,hat4,?_,fun j hj=>?_,?_,?_,h.low⟩
 ·have:=bQA hown ks (fun j hj hx=>by
   have e1:gg=j:=(by simpa [Value.ownBlock] using hj);have e2:j=D:=(by simpa using hx)
   exact hggn (by rw [e1,e2];simp))
  rw [List.length_append,List.length_singleton,pQD,List.flatMap_append];simpa [pQD] using this
 ·have e1:j=gg:=(by simpa [ownL,Value.ownBlock] using hj);rw [e1];exact hggn
 ·have h1:kQG w4 base S B sc' (fun j=>j∉X++[w.heap.size,w.heap.size+1,D]++ownL tv∧j<w4.heap.size):=hs4.mono (fun j _ h2 h3=>⟨h3,h2⟩);have h2:=((h1.keeps kA (by simp)).keeps k5 (fun j hj q=>q.1 (List.mem_append_right _ hj))).keeps ks (fun j hj q=>q.1 (List.mem_append_left _ (List.mem_append_right _ (by have e:j=D:=(by simpa using hj);rw [e];simp))));refine h2.mono (fun j _ _ q hx=>?_);rcases List.mem_append.1 hx with hx | hx
  ·exact q.1 (List.mem_append_left _ hx)
  ·have e1:j=gg:=(by simpa [ownL,Value.ownBlock] using hx);rcases hgg with p | p
   ·exact q.1 (List.mem_append_right _ (by rw [e1];exact p))
   ·have:=q.2;omega
 ·obtain ⟨T,k,hT⟩:=h.keep;refine ⟨T++T4,((((k.mono (fun i hi=>List.mem_append_left _ hi)).trans (k4.mono (fun i hi=>List.mem_append_right _ hi))).trans (kA.mono (by simp))).trans_new k5 (fun j hj=>.inr (jQC h.row j hj).1)).trans_new ks (fun j hj=>.inr (by have e:j=D:=(by simpa using hj);have:=h.low;omega)),fun j hj=>?_⟩;rcases List.mem_append.1 hj with q | q
  ·exact hT j q
  ·exact ⟨(hT4 j q).1,fun hx=>(hT4 j q).2 (List.mem_append_left _ (List.mem_append_left _ hx))⟩
def AtomMTo (z:Nat) (base S B:Nat) (X:List Nat) (r:Except Flt (yQA×aQB)) (e:Ending) (w':World):Prop:=match r with
 | .error f=>e=gQC f.1 f.2
 | .ok (x,sc')=>∃ tv,e=.returned (.agg #[.int .i64 (x.rel:Int),tv])∧w'.ownsRow z 220 2 tv x.terms.length (pQD x.terms)∧jQF w' base S B sc' (X++ownL tv)
end
end Go.Proofs.YtgjomknpjigkhaaGreatDoor
