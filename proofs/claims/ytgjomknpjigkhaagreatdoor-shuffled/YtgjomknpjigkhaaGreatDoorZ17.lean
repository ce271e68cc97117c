import Derived.Test.YtgjomknpjigkhaaGreatDoorZ16
import Derived.Deep.RegionHeld3
import Derived.Deep.QuietTactic
namespace Go.Proofs.YtgjomknpjigkhaaGreatDoor
open Go.Proofs.Tryz
set_option maxRecDepth 100000
set_option maxHeartbeats 4000000
section
open Go.RowKit
theorem Mm {w:World} {mb B:Nat} {m:Mean} (h:B5 w mb B m) {d:Nat} (hd:d<m.doms.length):∃ gk ck,gk<w.heap.size∧B<w.heap.size∧∀ {W:World},AA [] w W→W.cell? ⟨B,2,none⟩=some (.slice (some ⟨gk,0,none⟩) m.doms.length ck)∧W.cell? ⟨gk,d,none⟩=some (.int .i64 (m.size d)):=by
 obtain ⟨tD,mD,sz,tN,mN,co,cl,ln,cvs,kvs,hV⟩:=h;obtain ⟨ak,ck,hk⟩:=Al hV.sizes;subst hk;obtain ⟨gk,hgk⟩:=DK hV.sizes (by omega);subst hgk;refine ⟨gk,ck,(Bd hV.sizes gk rfl).2,hV.cells.lt,fun k=>⟨by rw [(hV.cells.keeps k).cell];rfl,GF (AH hV.sizes k) ?_⟩⟩;obtain ⟨q,hq⟩:∃ q,m.doms[d]?=some q:=⟨_,AB hd⟩;simp [Fh,hq,Mean.size]
set_option maxHeartbeats 8000000 in
theorem TO {w:World} {base S B mb:Nat} {sc:Ba} {m:Mean} (hm:B5 w mb B m) (h:Gl w base S B sc) (t:Tn) {s:ByteArray} (hg:t.g=.int s) (hw:Pp t.g) (d:Nat) (hd:d<m.doms.length) (hlt:¬ m.size d≤Cp t.g):Calls prog 340 #[.pointer (some ⟨S,0,none⟩),Da t,.int .i64 (d:Int)] w fun e w'=>e=.returned (.agg #[.bool false,.int .i64 (Cp t.g)])∧AA [] w w':=by
 have hkind:((AV t.g).toList == [86,65,82])=false:=by rw [hg];show (RQ.toList == [86,65,82])=false;rw [LH];decide
 have hval:=AD (fun (w:World)=>Jq (w:=w) t s hg hw);have hno:=AD (fun (w:World)=>DZ (w:=w) t 9);have kA:=AA.alloc [] w (.cells #[.string (AV t.g),.string (BB t.g),.int .i64 t.line] 129);have kB:=AA.alloc [] (w.alloc (.cells #[.string (AV t.g),.string (BB t.g),.int .i64 t.line] 129)) (.cells #[.bool false,.int .i64 0] 220);have hT:=(AK.new w #[.string (AV t.g),.string (BB t.g),.int .i64 t.line] 129).keeps kB;have hR:=AK.new (w.alloc (.cells #[.string (AV t.g),.string (BB t.g),.int .i64 t.line] 129)) #[.bool false,.int .i64 0] 220;rw [AX] at hR;obtain ⟨gk,ck,hgl,hBl,hsz⟩:=Mm hm hd;obtain ⟨tV,mV,kd,hV⟩:=h;have hSl:=hV.cells.lt;have hS0:∀ {W:World},AA [] w W→W.cell? ⟨S,0,none⟩=some (.pointer (some ⟨B,0,none⟩)):=fun k=>by rw [(hV.cells.keeps k).cell];rfl
 have hge:decide (m.size d≤Cp t.g)=false:=decide_eq_false hlt;have hdI:(d:Int)<m.doms.length:=by omega
 have kAB:=kA.trans kB;have H1:Hid (∀ {W:World},AA [] w W→AK W w.heap.size #[.string (AV t.g),.string (BB t.g),.int .i64 t.line]→(W.cell? ⟨S,0,none⟩=some (.pointer (some ⟨B,0,none⟩))∧W.cell? ⟨B,2,none⟩=some (.slice (some ⟨gk,0,none⟩) m.doms.length ck)∧W.cell? ⟨gk,d,none⟩=some (.int .i64 (m.size d))∧W.cell? ⟨w.heap.size,0,none⟩=some (.string (AV t.g))∧W.cell? ⟨w.heap.size,1,none⟩=some (.string (BB t.g))∧W.cell? ⟨w.heap.size,2,none⟩=some (.int .i64 t.line))):=fun k hc=>⟨hS0 k,(hsz k).1,(hsz k).2,hc.cell 0,hc.cell 1,hc.cell 2⟩;clear hV hS0 hsz hlt hg hw hm kA kB;generalize hWW:(w.alloc (.cells #[.string (AV t.g),.string (BB t.g),.int .i64 t.line] 129)).alloc (.cells #[.bool false,.int .i64 0] 220)=W at *;have hT2:=hT.keeps (AA.drew [] W);have k2:=kAB.trans (AA.drew [] W);have F1:=H1.out k2 hT2;have hT3:=hT2.keeps (AA.alloc [] W.drew (.cells #[.string (AV t.g),.string (BB t.g),.int .i64 t.line] 129));have k3:=k2.trans (AA.alloc [] W.drew (.cells #[.string (AV t.g),.string (BB t.g),.int .i64 t.line] 129));have F2:=H1.out k3 hT3;have hT4:=hT3.keeps (AA.alloc [] _ (.cells #[.string (AV t.g),.string (BB t.g),.int .i64 t.line] 129));have k4:=k3.trans (AA.alloc [] _ (.cells #[.string (AV t.g),.string (BB t.g),.int .i64 t.line] 129));have F3:=H1.out k4 hT4;subst hWW;unfold Da;go_in
 go_wp2_with fail
 go_region_held3 (fun w'=>w'.cell? ⟨S,0,none⟩=some (.pointer (some ⟨B,0,none⟩))∧w'.cell? ⟨B,2,none⟩=some (.slice (some ⟨gk,0,none⟩) m.doms.length ck)∧w'.cell? ⟨gk,d,none⟩=some (.int .i64 (m.size d))∧w'.cell? ⟨w.heap.size,0,none⟩=some (.string (AV t.g))∧w'.cell? ⟨w.heap.size,1,none⟩=some (.string (BB t.g))∧w'.cell? ⟨w.heap.size,2,none⟩=some (.int .i64 t.line)) (first | exact F1 | exact F2 | exact F3) (first
  | (go_at_call 140
     refine (hval.out _).mono ?_
     rintro e w1 ⟨rfl,rfl⟩)
  | (go_at_call 335
     refine (hno.out _).mono ?_
     rintro e w1 ⟨rfl,rfl⟩))
 have hRX:AK ((((w.alloc (.cells #[.string (AV t.g),.string (BB t.g),.int .i64 t.line] 129)).alloc (.cells #[.bool false,.int .i64 0] 220)).alloc (.cells #[.string (AV t.g),.string (BB t.g),.int .i64 t.line] 129)).alloc (.cells #[.string (AV t.g),.string (BB t.g),.int .i64 t.line] 129)).drew (w.heap.size+1) #[.bool false,.int .i64 0]:=((hR.keeps (AA.alloc [] _ (.cells #[.string (AV t.g),.string (BB t.g),.int .i64 t.line] 129))).keeps (AA.alloc [] _ (.cells #[.string (AV t.g),.string (BB t.g),.int .i64 t.line] 129))).keeps (AA.drew [] _);have hTX:AK ((((w.alloc (.cells #[.string (AV t.g),.string (BB t.g),.int .i64 t.line] 129)).alloc (.cells #[.bool false,.int .i64 0] 220)).alloc (.cells #[.string (AV t.g),.string (BB t.g),.int .i64 t.line] 129)).alloc (.cells #[.string (AV t.g),.string (BB t.g),.int .i64 t.line] 129)).drew w.heap.size #[.string (AV t.g),.string (BB t.g),.int .i64 t.line]:=((hT.keeps (AA.alloc [] _ (.cells #[.string (AV t.g),.string (BB t.g),.int .i64 t.line] 129))).keeps (AA.alloc [] _ (.cells #[.string (AV t.g),.string (BB t.g),.int .i64 t.line] 129))).keeps (AA.drew [] _);have kX:AA [] w ((((w.alloc (.cells #[.string (AV t.g),.string (BB t.g),.int .i64 t.line] 129)).alloc (.cells #[.bool false,.int .i64 0] 220)).alloc (.cells #[.string (AV t.g),.string (BB t.g),.int .i64 t.line] 129)).alloc (.cells #[.string (AV t.g),.string (BB t.g),.int .i64 t.line] 129)).drew:=((kAB.trans (AA.alloc [] _ (.cells #[.string (AV t.g),.string (BB t.g),.int .i64 t.line] 129))).trans (AA.alloc [] _ (.cells #[.string (AV t.g),.string (BB t.g),.int .i64 t.line] 129))).trans (AA.drew [] _);clear F1 F2 F3 hT2 hT3 hT4 k2 k3 k4 H1 hR hT kAB;generalize ((((w.alloc (.cells #[.string (AV t.g),.string (BB t.g),.int .i64 t.line] 129)).alloc (.cells #[.bool false,.int .i64 0] 220)).alloc (.cells #[.string (AV t.g),.string (BB t.g),.int .i64 t.line] 129)).alloc (.cells #[.string (AV t.g),.string (BB t.g),.int .i64 t.line] 129)).drew=Y at *;have d0:=hTX.cell 0;have d1:=hTX.cell 1;have d2:=hTX.cell 2;go_wp2_with fail
 refine (hval.out _).mono ?_;rintro e w5 ⟨rfl,rfl⟩;have hR5:=hRX.keeps (AA.alloc [] Y (.cells #[.string (AV t.g),.string (BB t.g),.int .i64 t.line] 129));have k5:=kX.trans (AA.alloc [] Y (.cells #[.string (AV t.g),.string (BB t.g),.int .i64 t.line] 129));generalize Y.alloc (.cells #[.string (AV t.g),.string (BB t.g),.int .i64 t.line] 129)=Z at *;obtain ⟨c0,f0,c1,f1,hat,hk⟩:=Nt hR5 (.bool false) (.int .i64 (Cp t.g));have Hat:=AD hat;have Hk:=AD hk;clear hat hk hR5 hRX hTX d0 d1 d2;go_wp2_with fail
 exact bodyPost_ret (v:=.agg #[.bool false,.int .i64 (Cp t.g)]) (EO (p:=6) (ty:=220) (by kernel_rfl) _ Hat.out underlying220 XV rfl) rfl ⟨rfl,k5.trans_new Hk.out (by simp)⟩
set_option maxHeartbeats 8000000 in
theorem RK {w:World} {base S B mb:Nat} {sc:Ba} {m:Mean} (hm:B5 w mb B m) (h:Gl w base S B sc) (t:Tn) {s:ByteArray} (hg:t.g=.int s) (hw:Pp t.g) (d:Nat) (hd:d<m.doms.length) (hlt:m.size d≤Cp t.g):Calls prog 340 #[.pointer (some ⟨S,0,none⟩),Da t,.int .i64 (d:Int)] w fun e w'=>e=Cx 9 t.line∧AA [] w w':=by
 have hkind:((AV t.g).toList == [86,65,82])=false:=by rw [hg];show (RQ.toList == [86,65,82])=false;rw [LH];decide
 have hval:=AD (fun (w:World)=>Jq (w:=w) t s hg hw);have hyes:=AD (fun (w:World)=>DT (w:=w) t 9);have kA:=AA.alloc [] w (.cells #[.string (AV t.g),.string (BB t.g),.int .i64 t.line] 129);have kB:=AA.alloc [] (w.alloc (.cells #[.string (AV t.g),.string (BB t.g),.int .i64 t.line] 129)) (.cells #[.bool false,.int .i64 0] 220);obtain ⟨gk,ck,hgl,hBl,hsz⟩:=Mm hm hd;obtain ⟨tV,mV,kd,hV⟩:=h;have hSl:=hV.cells.lt;have hS0:∀ {W:World},AA [] w W→W.cell? ⟨S,0,none⟩=some (.pointer (some ⟨B,0,none⟩)):=fun k=>by rw [(hV.cells.keeps k).cell];rfl
 have hge:decide (m.size d≤Cp t.g)=true:=decide_eq_true hlt;have hdI:(d:Int)<m.doms.length:=by omega
 have k2:AA [] w ((w.alloc (.cells #[.string (AV t.g),.string (BB t.g),.int .i64 t.line] 129)).alloc (.cells #[.bool false,.int .i64 0] 220)).drew:=(kA.trans kB).trans (AA.drew [] _);have k3:=k2.trans (AA.alloc [] _ (.cells #[.string (AV t.g),.string (BB t.g),.int .i64 t.line] 129));have a1:=hS0 (kA.trans kB);obtain ⟨a2,a3⟩:=hsz (kA.trans kB);have b1:=hS0 ((kA.trans kB).trans (AA.alloc [] _ (.cells #[.string (AV t.g),.string (BB t.g),.int .i64 t.line] 129)));obtain ⟨b2,b3⟩:=hsz ((kA.trans kB).trans (AA.alloc [] _ (.cells #[.string (AV t.g),.string (BB t.g),.int .i64 t.line] 129)));clear hV hS0 hsz hlt hg hw hm kA kB;unfold Da;go_in
 go_wp2_with fail
 go_region_law (first
  | (refine A2 rfl 140 _ _ rfl _ func140 (by kernel_rfl) (by kernel_rfl) [Da t] rfl ?_
     refine (hval.out _).mono ?_
     rintro e w1 ⟨rfl,rfl⟩)
  | (refine Fd rfl 335 _ _ rfl _ func335 (by kernel_rfl) (by kernel_rfl) [Da t,.bool true,.int .i64 9] rfl ?_ ?_
     ·refine (hyes.out _).mono ?_;rintro e w1 ⟨rfl,rfl⟩;exact ⟨rfl,rfl,k3.trans (AA.alloc [] _ _)⟩
     intro hf))
 all_goals exact (hf.out).elim
theorem TP {w:World} {base S B mb:Nat} {sc:Ba} {m:Mean} {X:List Nat} (hm:B5 w mb B m) (h:Eo w base S B sc X) (hX:∀ j∈X,j<w.heap.size) (hbase:base≤w.heap.size) (t:Tn) (ht:Bv t.g=true) (hw:Pp t.g) (d:Nat) (hd:d<m.doms.length) (hl:sc.length≤4):Calls prog 340 #[.pointer (some ⟨S,0,none⟩),Da t,.int .i64 (d:Int)] w fun e w'=>fC base S B X (Gu m sc t d) e w'∧∃ T,AA T w w'∧∀ j∈T,base≤j∧j∉X:=by
 cases hg:t.g with
 | var s=>exact Z5 h hX hbase m t (by rw [hg];rfl) d hl
 | int s=>
  unfold Gu;rw [if_neg (by rw [hg];exact DY)];by_cases hlt:m.size d≤Cp t.g
  ·rw [if_pos hlt];refine (RK hm h.to t hg hw d hd hlt).mono ?_;rintro e w' ⟨rfl,k⟩;exact ⟨rfl,[],k,by simp⟩
  ·rw [if_neg hlt];refine (TO hm h.to t hg hw d hd hlt).mono ?_;rintro e w' ⟨rfl,k⟩;exact ⟨⟨rfl,h.keeps k⟩,[],k,by simp⟩
 | _=>rw [hg] at ht;cases ht
theorem Ou {w:World} {mb B:Nat} {m:Mean} (h:B5 w mb B m) {r:Nat} {s:ByteArray} {ds:List Nat} (hr:m.rels[r]?=some (s,ds)):∃ gc cc av cv,gc<w.heap.size∧(∀ d∈ds,∃ g,av=some ⟨g,0,none⟩∧g<w.heap.size)∧∀ {W:World},AA [] w W→W.cell? ⟨B,5,none⟩=some (.slice (some ⟨gc,0,none⟩) m.rels.length cc)∧W.cell? ⟨gc,r,none⟩=some (.slice av ds.length cv)∧∀ (i d g:Nat),ds[i]?=some d→av=some ⟨g,0,none⟩→W.cell? ⟨g,i,none⟩=some (.int .i64 (d:Int)):=by
 obtain ⟨tD,mD,sz,tN,mN,co,cl,ln,cvs,kvs,hV⟩:=h;obtain ⟨ak,ck,hk⟩:=Al hV.cols;subst hk;have hrl:r<m.rels.length:=by
  rcases BP r m.rels.length with h | h
  ·exact h
  ·rw [Af h] at hr;cases hr
 obtain ⟨gk,hgk⟩:=DK hV.cols (by omega);subst hgk;obtain ⟨v,hv,hrow,_⟩:=hV.colsA.at hr;obtain ⟨av,cv,rfl⟩:=Al hrow;refine ⟨gk,ck,av,cv,(Bd hV.cols gk rfl).2,fun d hd=>?_,fun k=>⟨by rw [(hV.cells.keeps k).cell];rfl,GF (AH hV.cols k) hv,fun i d g hd hg=>?_⟩⟩
 ·have hpos:0<ds.length:=Ck hd;obtain ⟨g,hg⟩:=DK hrow hpos;subst hg;exact ⟨g,rfl,(Bd hrow g rfl).2⟩
 ·subst hg;refine GF (AH hrow k) ?_;simp [Ft,hd]
theorem LU {w:World} {mb B:Nat} {m:Mean} (h:B5 w mb B m) (s:ByteArray) {W:World} (k:AA [] w W):Calls prog 77 #[.pointer (some ⟨B,3,none⟩),.string s] W fun e w'=>e=.returned (.tuple #[.int .i64 ((m.rel s).getD 0:Nat),.bool (m.rel s).isSome])∧w' = W:=by
 obtain ⟨tD,mD,sz,tN,mN,co,cl,ln,cvs,kvs,hV⟩:=h;have:=EP (B:=B) (o:=3) ((hV.keeps k).names) (by rw [(hV.cells.keeps k).cell];rfl) s;rw [B7] at this;exact this
theorem JH {w:World} {mb B:Nat} {m:Mean} (h:B5 w mb B m):B<w.heap.size:=by
 obtain ⟨tD,mD,sz,tN,mN,co,cl,ln,cvs,kvs,hV⟩:=h;exact hV.cells.lt
theorem LK {w:World} {base S B:Nat} {sc:Ba} (h:Gl w base S B sc):S<w.heap.size∧∀ {W:World},AA [] w W→W.cell? ⟨S,0,none⟩=some (.pointer (some ⟨B,0,none⟩)):=by
 obtain ⟨tV,mV,kd,hV⟩:=h;exact ⟨hV.cells.lt,fun k=>by rw [(hV.cells.keeps k).cell];rfl⟩
theorem Zf {w:World} {base S B mb:Nat} {sc:Ba} {m:Mean} (hm:B5 w mb B m) (h:Gl w base S B sc) (n:Tn) (av:Option Addr) (cn cc:Nat) (hr:m.rel (BB n.g)=none):Calls prog 339 #[.pointer (some ⟨S,0,none⟩),.agg #[.string (AV n.g),.string (BB n.g),.int .i64 n.line,.slice av cn cc]] w fun e w'=>e=Cx 8 n.line∧AA [] w w':=by
 obtain ⟨hSl,hS⟩:=LK h;have hBl:=JH hm;have hpl:=AD (fun (W:World) (k:AA [] w W)=>LU hm (BB n.g) k);rw [hr] at hpl;have kA:=AA.alloc [] w (.cells #[.string (AV n.g),.string (BB n.g),.int .i64 n.line,.slice av cn cc] 327);have kB:=kA.trans (AA.alloc [] _ (.cells #[.int .i64 0,.slice none 0 0] 151));have hA:=(AK.new w #[.string (AV n.g),.string (BB n.g),.int .i64 n.line,.slice av cn cc] 327).keeps (AA.alloc [] _ (.cells #[.int .i64 0,.slice none 0 0] 151));have s0:=hS kB;have a0:=hA.cell 0;have a1:=hA.cell 1;have a2:=hA.cell 2;have hy:=AD (fun (w:World)=>DT (w:=w) n 8);clear hm h hS hr;go_in
 go_wp2_with fail
 go_quiet (first | (go_at_call 77;exact (hpl.out _ (kB.trans (AA.drewN _ _ _))).mono fun _ _ h=>⟨h.1,_,h.2⟩))
 go_wp2_with fail
 refine (hy.out _).mono ?_;rintro e w3 ⟨rfl,rfl⟩;exact ⟨rfl,rfl,(kB.trans (AA.drewN _ _ _)).trans (AA.alloc [] _ _)⟩
theorem Wy {w:World} {base S B mb:Nat} {sc:Ba} {m:Mean} (hm:B5 w mb B m) (h:Gl w base S B sc) (n:Tn) (av:Option Addr) (cn cc:Nat) {r:Nat} (hr:m.rel (BB n.g)=some r) {s:ByteArray} {ds:List Nat} (hrs:m.rels[r]?=some (s,ds)) (hne:cn≠ds.length):Calls prog 339 #[.pointer (some ⟨S,0,none⟩),.agg #[.string (AV n.g),.string (BB n.g),.int .i64 n.line,.slice av cn cc]] w fun e w'=>e=Cx 10 n.line∧AA [] w w':=by
 obtain ⟨hSl,hS⟩:=LK h;have hBl:=JH hm;have hpl:=AD (fun (W:World) (k:AA [] w W)=>LU hm (BB n.g) k);rw [hr] at hpl;obtain ⟨gc,cc',av',cv',hgl,_,hcols⟩:=Ou hm hrs;have hrl':r<m.rels.length:=Ej hr;have kA:=AA.alloc [] w (.cells #[.string (AV n.g),.string (BB n.g),.int .i64 n.line,.slice av cn cc] 327);have kB:=kA.trans (AA.alloc [] _ (.cells #[.int .i64 0,.slice none 0 0] 151));have hA:=(AK.new w #[.string (AV n.g),.string (BB n.g),.int .i64 n.line,.slice av cn cc] 327).keeps (AA.alloc [] _ (.cells #[.int .i64 0,.slice none 0 0] 151));have s0:=hS kB;have a0:=hA.cell 0;have a1:=hA.cell 1;have a2:=hA.cell 2;have hno:=AD (fun (w:World)=>DZ (w:=w) n 8);have hy:=AD (fun (w:World)=>DT (w:=w) n 10);have Hc:=AD (fun (W:World) (k:AA [] w W)=>(⟨(hcols k).1,(hcols k).2.1⟩:_∧_));have HS:=AD (fun (W:World) (k:AA [] w W)=>hS k);have HA:=AD (fun (W:World) (k:AA [] ((w.alloc (.cells #[.string (AV n.g),.string (BB n.g),.int .i64 n.line,.slice av cn cc] 327)).alloc (.cells #[.int .i64 0,.slice none 0 0] 151)) W)=>hA.keeps k);have hneI:((cn:Int) != (ds.length:Int))=true:=by rw [bne_iff_ne];omega
 have hrI:(r:Int)<m.rels.length:=by omega
 clear hm h hS hr hcols hA hne;go_in
 go_wp2_with fail
 go_quiet (first | (go_at_call 77;exact (hpl.out _ (kB.trans (AA.drewN _ _ _))).mono fun _ _ h=>⟨h.1,_,h.2⟩))
 go_wp2_with fail
 refine (hno.out _).mono ?_;rintro e w3 ⟨rfl,rfl⟩;generalize hWW:((w.alloc (.cells #[.string (AV n.g),.string (BB n.g),.int .i64 n.line,.slice av cn cc] 327)).alloc (.cells #[.int .i64 0,.slice none 0 0] 151))=W1 at *;have k3:=(AA.drewN [] W1 nq).trans (AA.alloc [] _ (.cells #[.string (AV n.g),.string (BB n.g),.int .i64 n.line] 129));have kw3:=kB.trans k3;have hA3:=HA.out _ k3;obtain ⟨c5,cr⟩:=Hc.out _ kw3;have s3:=HS.out _ kw3;generalize (W1.drewN nq).alloc (.cells #[.string (AV n.g),.string (BB n.g),.int .i64 n.line] 129)=W3 at *;have b0:=hA3.cell 0;have b1:=hA3.cell 1;have b2:=hA3.cell 2;have b3:=hA3.cell 3;go_wp2_with fail
 refine (hy.out _).mono ?_;rintro e w4 ⟨rfl,rfl⟩;exact ⟨rfl,rfl,kw3.trans (AA.alloc [] _ _)⟩
theorem iW:(prog.info? 220).map (fun i=>(i.zero,i.size,i.bytes))=some (some (.agg #[.bool false,.int .i64 0]),2,16):=by kernel_rfl
theorem gE:(prog.info? 151).map (·.size)=some 2:=by kernel_rfl
theorem OP {ops : Array Oper} {o : Oper} {a : Act} {w : World} {K : Act → World → Prop} {Q : Exit → Act → World → Prop} {E : Prop} (hg : o.guard = none) (f : Nat) (xs : Array Operand) (tys : Array TypeId) (hop : o.op = .call { callee := .value (.func f), args := xs, argTypes := tys }) (fn : Func) (hf : prog.funcs[f]? = some fn) (hname : (fn.name == "runtime.NumGoroutine") = false) (hbody : fn.body.isNone = false) (vs : List Value) (hx : xs.toList.map a.eval = vs) (u : Value)
  (h:Calls prog f vs.toArray w fun
   | .returned _,_=>False
   | .panicked chain,w''=>Q (.panic chain) a w''
   | .outgrown,_=>LetsOut Q) (_:Hid False→K (a.put o.dst u) w):if Region.wanted o (yielded ops a.tmps)=true then Oper.wp prog o a w K Q else E:=by
 refine A2 hg f xs tys hop fn hf hname hbody vs hx (h.mono ?_);intro e w' he;cases e <;> first | exact he | exact he.elim
theorem QR {ops:Array Oper} {o:Oper} {a:Act} {w:World} {K:Act→World→Prop} {Q:Exit→Act→World→Prop} {E:Prop} (hf:Hid False) (u:Value) (_:K (a.put o.dst u) w):if Region.wanted o (yielded ops a.tmps)=true then Oper.wp prog o a w K Q else E:=hf.out.elim
def PZ (d:List BN):Except I0 (List BN×Ba)→Except I0 (List BN×Ba)
 | .ok (r,sc)=>.ok (d++r,sc)
 | .error f=>.error f
structure lA (w wr:World) (base S B D:Nat) (X:List Nat) (n:Tn) (tav:Value) (r:Nat) (sc:Ba) (xs:List BN) (tv:Value):Prop where
 arg:AK wr w.heap.size #[.string (AV n.g),.string (BB n.g),.int .i64 n.line,tav]
 res:AK wr (w.heap.size+1) #[.int .i64 0,.slice none 0 0]
 at_:AK wr D #[.int .i64 (r:Int),tv]
 row:wr.ownsRow w.heap.size 220 2 tv xs.length (EA xs)
 rowA:∀ j∈Aa tv,j∉[w.heap.size,w.heap.size+1,D]
 sc:Eo wr base S B sc (X++[w.heap.size,w.heap.size+1,D]++Aa tv)
 keep:∃ T,AA T w wr∧∀ j∈T,base≤j∧j∉X
 low:w.heap.size+2≤D
theorem lA.lt {w wr:World} {base S B D:Nat} {X:List Nat} {n:Tn} {tav:Value} {r:Nat} {sc:Ba} {xs:List BN} {tv:Value} (h:lA w wr base S B D X n tav r sc xs tv) (hX:∀ j∈X,j<w.heap.size):∀ j∈X++[w.heap.size,w.heap.size+1,D]++Aa tv,j<wr.heap.size:=fun j hj=>by
 obtain ⟨T,k,_⟩:=h.keep;have hs:=k.size;have h1:=h.res.lt;have h2:=h.at_.lt;simp only [AC,AG,A7,or_false] at hj;rcases hj with (hj | hj | hj | hj) | hj
 ·have:=hX j hj;omega
 ·omega
 ·omega
 ·omega
 ·exact (DJ h.row j hj).2
theorem lA.step {w wr w4 w5:World} {base S B D:Nat} {X:List Nat} {n:Tn} {tav:Value} {r:Nat} {sc sc':Ba} {xs:List BN} {tv:Value} {x:BN} {T4:List Nat} (h:lA w wr base S B D X n tav r sc xs tv) (hX:∀ j∈X,j<w.heap.size) (k4:AA T4 wr w4) (hT4:∀ j∈T4,base≤j∧j∉X++[w.heap.size,w.heap.size+1,D]++Aa tv) (hs4:Eo w4 base S B sc' (X++[w.heap.size,w.heap.size+1,D]++Aa tv)) {o:Obj} (hgrow:(w4.alloc o).grownBy w5 tv.ownBlock) {gg cap:Nat} (hown:w5.ownsRow w.heap.size 220 2 (.slice (some ⟨gg,0,none⟩) (xs.length+1) cap) (xs.length+1) (EA xs++Z7 x)) (hat:tv.ownBlock=some gg∨gg=w4.heap.size+1):lA w (w5.setCell ⟨D,1,none⟩ (.slice (some ⟨gg,0,none⟩) (xs.length+1) cap)) base S B D X n tav r sc' (xs++[x]) (.slice (some ⟨gg,0,none⟩) (xs.length+1) cap):=by
 have hL:=h.lt hX;have k5:=grownBy_keeps' hgrow (Aa tv) (fun r e=>.inl (by simp [Aa,e]));have kA:=AA.alloc [] w4 o;have ks:=AA.setCell w5 ⟨D,1,none⟩ (.slice (some ⟨gg,0,none⟩) (xs.length+1) cap);have hD:=h.at_.lt;have hR:=h.res.lt;have hs4z:=k4.size;have hgg:gg∈Aa tv∨gg=w4.heap.size+1:=by
  rcases hat with q | q
  ·left;simp [Aa,q]
  ·exact .inr q
 have hggn:gg∉[w.heap.size,w.heap.size+1,D]:=by
  rcases hgg with q | q
  ·exact h.rowA gg q
  ·have hl:=h.low;simp;omega
 have nT:∀ j∈[w.heap.size,w.heap.size+1,D],j∉T4∧j∉Aa tv:=fun j hj=>⟨fun q=>(hT4 j q).2 (AN _ (AT _ hj)),fun q=>h.rowA j q hj⟩;have go:∀ {j:Nat} {cs:Array Value},j∈[w.heap.size,w.heap.size+1]→AK wr j cs→AK (w5.setCell ⟨D,1,none⟩ (.slice (some ⟨gg,0,none⟩) (xs.length+1) cap)) j cs:=fun {j cs} hj hc=>by
  have hj':j∈[w.heap.size,w.heap.size+1,D]:=by simp at hj ⊢;omega
  have hl:=h.low;exact (((hc.keeps k4 (nT j hj').1).keeps kA).keeps k5 (nT j hj').2).keeps ks (by simp at hj ⊢;omega)
 have hDD:D∈[w.heap.size,w.heap.size+1,D]:=by simp
 have hat4:=(((h.at_.keeps k4 (nT D hDD).1).keeps kA).keeps k5 (nT D hDD).2).setCell 1 (.slice (some ⟨gg,0,none⟩) (xs.length+1) cap);refine ⟨go (by simp) h.arg,go (by simp) h.res,hat4,?_,fun j hj=>?_,?_,?_,h.low⟩
 ·have:=AH hown ks (fun j hj hx=>by
   have e1:gg=j:=(by simpa [Value.ownBlock] using hj);have e2:j=D:=(by simpa using hx)
   exact hggn (by rw [e1,e2];simp))
  rw [AJ,Ah,EA,Cr];simpa [EA] using this
 ·have e1:j=gg:=(by simpa [Aa,Value.ownBlock] using hj);rw [e1];exact hggn
 ·have h1:FM w4 base S B sc' (fun j=>j∉X++[w.heap.size,w.heap.size+1,D]++Aa tv∧j<w4.heap.size):=hs4.mono (fun j _ h2 h3=>⟨h3,h2⟩);have h2:=((h1.keeps kA).keeps k5 (fun j hj q=>q.1 (AT _ hj))).keeps ks (fun j hj q=>q.1 (AN _ (AT _ (by have e:j=D:=(by simpa using hj);rw [e];simp))));refine h2.mono (fun j _ _ q hx=>?_);rcases AC.1 hx with hx | hx
  ·exact q.1 (AN _ hx)
  ·have e1:j=gg:=(by simpa [Aa,Value.ownBlock] using hx);rcases hgg with p | p
   ·exact q.1 (AT _ (by rw [e1];exact p))
   ·have:=q.2;omega
 ·obtain ⟨T,k,hT⟩:=h.keep;refine ⟨T++T4,((((k.mono (fun i hi=>AN _ hi)).trans (k4.mono (fun i hi=>AT _ hi))).trans (kA.mono (by simp))).trans_new k5 (fun j hj=>.inr (DJ h.row j hj).1)).trans_new ks (fun j hj=>.inr (by have e:j=D:=(by simpa using hj);have:=h.low;omega)),fun j hj=>?_⟩;rcases AC.1 hj with q | q
  ·exact hT j q
  ·exact ⟨(hT4 j q).1,fun hx=>(hT4 j q).2 (AN _ (AN _ hx))⟩
def YC (z:Nat) (base S B:Nat) (X:List Nat) (r:Except I0 (BW×Ba)) (e:Ending) (w':World):Prop:=match r with
 | .error f=>e=Cx f.1 f.2
 | .ok (x,sc')=>∃ tv,e=.returned (.agg #[.int .i64 (x.rel:Int),tv])∧w'.ownsRow z 220 2 tv x.terms.length (EA x.terms)∧Eo w' base S B sc' (X++Aa tv)
end
end Go.Proofs.YtgjomknpjigkhaaGreatDoor
