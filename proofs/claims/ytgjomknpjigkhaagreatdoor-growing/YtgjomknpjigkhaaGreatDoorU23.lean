import Derived.Test.YtgjomknpjigkhaaGreatDoorU22
import Derived.Test.YtgjomknpjigkhaaGreatDoorU05
import Derived.Shelf.LaysM
import Derived.Shelf.Strconv.Clone
namespace Go.Proofs.YtgjomknpjigkhaaGreatDoor
open Go.Proofs.Tryz
set_option maxRecDepth 100000
set_option maxHeartbeats 4000000
section
open Go.RowKit
theorem run_makeIntsE (w:World) (n:Nat) (hn:n≤1000):(Instr.makeSlice 40 (.int .i64 (n:Int)) (.int .i64 (n:Int))).run prog w=.ok (.slice (some ⟨w.heap.size,0,none⟩) n n) (w.alloc (.cells (madeCells #[.int .i64 0] n) 3)):=by
 obtain ⟨i0,hi0,hz0,hz1,hz2⟩:=info_parts info3E;have:=run_make (P:=prog) w 40 3 i0 (.int .i64 0) underlying40 hi0 hz0 .i64 .i64 n n (by omega) (by omega) (by rw [hz2];omega) (by omega);rw [this,hz1];simp [Value.cells]
theorem made_nats (n:Nat):madeCells #[.int .i64 0] n=natC (List.replicate n 0):=by
 apply Array.ext';rw [toList_madeCells_one (.int .i64 0) n];simp [natC]
def tQL (i n:Nat):List Nat:=(List.range n).map fun j=>if j<i then 2 ^ j else 0
theorem initV_zero (n:Nat):tQL 0 n=List.replicate n 0:=by
 apply List.ext_getElem?;intro j;simp [tQL,List.getElem?_replicate];split <;> simp_all
theorem initV_len (i n:Nat):(tQL i n).length=n:=by simp [tQL]
theorem initV_get {i n j:Nat} (h:j<n):(tQL i n).getD j 0=if j<i then 2 ^ j else 0:=by
 simp [tQL,List.getD_eq_getElem?_getD,h]
theorem initV_set {i n:Nat} (h:i<n):(tQL i n).set i (2 ^ i)=tQL (i+1) n:=by
 apply List.ext_getElem?;intro j;rw [List.getElem?_set];by_cases e:i=j
 ·subst e;rw [if_pos rfl];simp [h,tQL]
 ·rw [if_neg e];by_cases hj:j<n
  ·simp only [tQL,List.getElem?_map,List.getElem?_range hj,Option.map_some];congr 1
   by_cases h1:j<i
   ·rw [if_pos h1,if_pos (by omega)]
   ·rw [if_neg h1,if_neg (by omega)]
  ·rw [List.getElem?_eq_none (by rw [initV_len];omega),List.getElem?_eq_none (by rw [initV_len];omega)]
theorem initV_hang {E:iQF} {n:Nat}:HangI E n (tQL n n):=by
 refine ⟨initV_len _ _,fun i hi=>?_⟩;rw [initV_get hi,if_pos hi];refine ⟨Nat.pow_lt_pow_right (by omega) hi,Nat.testBit_two_pow_self,fun j hj=>?_⟩;rw [Nat.testBit_two_pow] at hj;have e:i=j:=by simpa using hj
 subst e;exact .here _
theorem mean_names {w:World} {mb B:Nat} {m:Mean} (h:jQB w mb B m) {W:World} (k:aQA [] w W):Calls prog 254 #[.pointer (some ⟨B,3,none⟩)] W fun e w'=>e=.returned (.int .i64 (m.rels.length:Nat))∧w' = W:=by
 obtain ⟨tD,mD,sz,tN,mN,co,cl,ln,cvs,kvs,hV⟩:=h;obtain ⟨aD,cD,hD⟩:=fQA hV.names.row;have:=aQF (w:=W) (B:=B) (o:=3) (ns:=m.rels.map Prod.fst) (a:=aD) (c:=cD) (by rw [(hV.cells.keeps k (by simp)).cell,←hD];rfl);rw [List.length_map] at this;exact this
theorem hanging_calls {w:World} {mb B:Nat} {m:Mean} (hm:jQB w mb B m) (hok:mQC m):Calls prog 201 #[.pointer (some ⟨B,0,none⟩)] w fun e w'=>(∃ vals,e=.returned (.slice (some ⟨w.heap.size,0,none⟩) m.rels.length m.rels.length)∧cQA w' w.heap.size (natC vals)∧vals.length=m.rels.length∧(∀ i,vals.getD i 0<64)∧∀ a b,a<m.rels.length→(vals.getD a 0).testBit b=hangB m.rels.length (sQC m.clauses) a b)∧aQA [] w w':=by
 have hlen:=hide (fun (W:World) (k:aQA [] w W)=>mean_names hm k);have hn6:=hok.rels;have hBl:=sQL hm;have H:=hang_ok (cs:=m.clauses) hok.inR;have h64:∀ vals,HangI (sQC m.clauses) m.rels.length vals→∀ i,vals.getD i 0<64:=fun vals h i=>by
  rcases Nat.lt_or_ge i m.rels.length with q | q
  ·have h1:=(h.2 i q).1;have h2:(2:Nat) ^ m.rels.length≤2 ^ 6:=Nat.pow_le_pow_right (by omega) hn6;omega
  ·rw [List.getD_eq_getElem?_getD,List.getElem?_eq_none (by rw [h.1];exact q)];decide
 have hspr:=hide (fun (W:World) (k:aQA [] w W) (hS:Spr W W w.heap.size (w.heap.size+1) m.rels.length m.rels.length (HangI (sQC m.clauses) m.rels.length) (tQL m.rels.length m.rels.length))=>spread256_calls hm k (Nat.le_refl _) (by omega) H h64 hok.clauses hok.lits hS);have H64:=hide h64;have Hrel:=hide hok.inR;have hmk:=run_makeIntsE w m.rels.length (by omega);rw [made_nats] at hmk;have kA:=aQA.alloc [] w (.cells (natC (List.replicate m.rels.length 0)) 3);have hg0:=cQA.new w (natC (List.replicate m.rels.length 0)) 3;have kC:=aQA.alloc [] (w.alloc (.cells (natC (List.replicate m.rels.length 0)) 3)) (.cells #[.slice (some ⟨w.heap.size,0,none⟩) m.rels.length m.rels.length] 40);have hC0:=cQA.new (w.alloc (.cells (natC (List.replicate m.rels.length 0)) 3)) #[.slice (some ⟨w.heap.size,0,none⟩) m.rels.length m.rels.length] 40;rw [dQA] at hC0;have hg1:=hg0.keeps kC (by simp);have Hz:=hide (initV_zero m.rels.length);have Hg1:=hide hg1;have HC0:=hide hC0;have kAC:=kA.trans kC;clear hm hok H h64 hg0 hg1 hC0 kA kC;generalize hnn:m.rels.length=n at *;clear hnn;generalize hO:Obj.cells (natC (List.replicate n 0)) 3=ob at *;go_enter func201,ntmps201
 go_wp2_with fail
 refine (hlen.out _ (aQA.refl [] w)).mono ?_;rintro e w1 ⟨rfl,rfl⟩;go_wp2_with fail
 go_loopw [12] (fun x wr=>∃ i:Nat,x=.int .i64 i∧i≤n∧cQA wr w1.heap.size (natC (tQL i n))∧cQA wr (w1.heap.size+1) #[.slice (some ⟨w1.heap.size,0,none⟩) n n]∧aQA [] w1 wr) (fun x _=>n - (intOf x).toNat)
 case atStart=>exact ⟨0,rfl,by omega,by rw [Hz.out];exact Hg1.out,HC0.out,kAC⟩
 case round=>
  clear hmk hlen kAC Hg1 HC0;obtain ⟨i,rfl,hil,hg,hC,kr⟩:=hrel;have c0:=hC.cell 0;have hCl:=hC.lt;by_cases hlt:i<n
  ·have hiI:(i:Int)<n:=(by omega);have g0:wr.cell? ⟨w1.heap.size,i,none⟩=some (.int .i64 (((tQL i n).getD i 0:Nat):Int)):=by rw [hg.cell];exact zQG (by rw [initV_len];exact hlt)
   have f0:=hg.frozen i;have hsh:=shl_val (p:=i) (by omega);have hgN:=hg.setCell i (.int .i64 ((2 ^ i:Nat):Int));rw [natC_set,initV_set hlt] at hgN;have hCN:=hC.keeps (aQA.setCell wr ⟨w1.heap.size,i,none⟩ (.int .i64 ((2 ^ i:Nat):Int))) (by simp);have kN:aQA [] w1 (wr.setCell ⟨w1.heap.size,i,none⟩ (.int .i64 ((2 ^ i:Nat):Int))):=kr.trans_new (aQA.setCell wr ⟨w1.heap.size,i,none⟩ _) (by simp);generalize hP2:(2:Nat) ^ i=P2 at *;have Hg:=hide (hgN.keeps (aQA.drew [] _) (by simp));have HC:=hide (hCN.keeps (aQA.drew [] _) (by simp));have Hk:=hide (kN.trans (aQA.drew [] _));clear hgN hCN kN hg hC;go_wp2_with fail
   go_region_law (fail)
   all_goals
    go_wp2_with fail
    go_roundw
    ·exact ⟨i+1,by simp,by omega,Hg.out,HC.out,Hk.out⟩
    ·simp only [intOf];omega
  ·have hiI:¬ (i:Int)<n:=(by omega);have e:i=n:=(by omega);subst e;have hS:Spr wr wr w1.heap.size (w1.heap.size+1) i i (HangI (sQC m.clauses) i) (tQL i i):=⟨hg,hC,initV_hang,aQA.refl _ _⟩;have hcall:=hide (hspr.out wr kr hS);clear hspr hS hg;go_wp2_with fail
   refine hcall.out.mono ?_;rintro e w2 ⟨rfl,vals,hS2,hst⟩;have c2:=hS2.cap.cell 0;have k2:aQA [] w1 w2:=kr.trans_new hS2.keep (by simp);have HS2:=hide hS2;have Hst:=hide hst;clear hS2 hst;go_wp2_with fail
   go_ret
   exact ⟨⟨vals,rfl,HS2.out.row,HS2.out.inv.1,H64.out vals HS2.out.inv,fun a b ha=>hang_done Hrel.out HS2.out.inv Hst.out ha⟩,k2⟩
end
section
open Go.RowKit
def laysM316_ren:Go.Shelf.Ren:=⟨fun | 316=>258 | n=>n,fun | 9=>9 | 3=>3 | 4=>4 | 37=>120 | 0=>0 | 127=>208 | 5=>5 | n=>n,fun | n=>n⟩
theorem laysM316:Go.Proofs.LaysM.n316 prog laysM316_ren:={
 mixed:=by kernel_rfl
 f316:=func258.trans (congrArg some (by kernel_rfl))
 t0:=underlying0
 a0:=Tryz.isAgg0
 z0:=Tryz.sizeOf0
 v0:=Tryz.zeroValue0
 t3:=underlying3
 a3:=Tryz.isAgg3
 z3:=Tryz.sizeOf3
 v3:=Tryz.zeroValue3
 t4:=underlying4
 a4:=Tryz.isAgg4
 z4:=Tryz.sizeOf4
 v4:=Tryz.zeroValue4
 t9:=underlying9
 a9:=Tryz.isAgg9
 z9:=Tryz.sizeOf9
 v9:=Tryz.zeroValue9
 t37:=underlying120
 a37:=Tryz.isAgg120
 z37:=Tryz.sizeOf120
 v37:=Tryz.zeroValue120
 t127:=underlying208
 a127:=Tryz.isAgg208
 z127:=Tryz.sizeOf208
 v127:=Tryz.zeroValue208
 t5:=underlying5
 a5:=Tryz.isAgg5
 z5:=Tryz.sizeOf5
 v5:=Tryz.zeroValue5
 i0:=by kernel_rfl
 i3:=by kernel_rfl
 i4:=by kernel_rfl
 i5:=by kernel_rfl
 i9:=by kernel_rfl
 i37:=by kernel_rfl
 i127:=by kernel_rfl }
open Go.RowKit in
theorem slClone (s:ByteArray) (w:World) (hlim:s.size≤281474976710656) :
  Calls prog 258 #[.string s] w fun e w'=>e=.returned (.string s)∧Go.RowKit.Below w.heap.size w w':=Any.stringslite_Clone laysM316 s w hlim
theorem below_keeps {w w':World} (h:Go.RowKit.Below w.heap.size w w'):aQA [] w w':=⟨h.os,h.tape,h.output,h.size,fun i hi _=>h.block i hi⟩
theorem clone203_calls {w:World} (s:ByteArray) (hs:s.size≤1000000):Calls prog 203 #[.string s] w fun e w'=>e=.returned (.string s)∧aQA [] w w':=by
 have hc:=hide (fun (w:World)=>slClone s w (by omega));go_enter func203,ntmps203
 go_wp2_with fail
 refine (hc.out _).mono ?_;rintro e w' ⟨rfl,hb⟩;have k:=below_keeps hb;clear hb;go_wp2_with fail
 go_ret
 exact ⟨rfl,k⟩
theorem layers_calls {w:World} {mb B:Nat} {m:Mean} (hm:jQB w mb B m) (hok:mQC m) (hnc:∀ c∈m.clauses,hQG m.rels.length (sQC m.clauses) c=false):Calls prog 202 #[.pointer (some ⟨B,0,none⟩)] w fun e w'=>(∃ vals,e=.returned (.slice (some ⟨w.heap.size,0,none⟩) m.rels.length m.rels.length)∧cQA w' w.heap.size (natC vals)∧LayI m.clauses m.rels.length vals∧rQE layG m.clauses vals)∧aQA [] w w':=by
 have hlen:=hide (fun (W:World) (k:aQA [] w W)=>mean_names hm k);have hn6:=hok.rels;have hBl:=sQL hm;have H:=lay_ok (cs:=m.clauses) hok.inR hnc;have h64:∀ vals,LayI m.clauses m.rels.length vals→∀ i,vals.getD i 0<64:=fun vals h i=>by
  rcases Nat.lt_or_ge i m.rels.length with q | q
  ·have h1:=h.2.1 i q;have h2:=cnt_le m.rels.length (hangB m.rels.length (sQC m.clauses) i);unfold vQF at h1;omega
  ·rw [List.getD_eq_getElem?_getD,List.getElem?_eq_none (by rw [h.1];exact q)];decide
 have hspr:=hide (fun (W:World) (k:aQA [] w W) (hS:Spr W W w.heap.size (w.heap.size+1) m.rels.length m.rels.length (LayI m.clauses m.rels.length) (List.replicate m.rels.length 0))=>spread257_calls hm k (Nat.le_refl _) (by omega) H h64 hok.clauses hok.lits hS);have Hl0:=hide (lay_first (cs:=m.clauses) hok.inR);have hmk:=run_makeIntsE w m.rels.length (by omega);rw [made_nats] at hmk;have kA:=aQA.alloc [] w (.cells (natC (List.replicate m.rels.length 0)) 3);have hg0:=cQA.new w (natC (List.replicate m.rels.length 0)) 3;have kC:=aQA.alloc [] (w.alloc (.cells (natC (List.replicate m.rels.length 0)) 3)) (.cells #[.slice (some ⟨w.heap.size,0,none⟩) m.rels.length m.rels.length] 40);have hC0:=cQA.new (w.alloc (.cells (natC (List.replicate m.rels.length 0)) 3)) #[.slice (some ⟨w.heap.size,0,none⟩) m.rels.length m.rels.length] 40;rw [dQA] at hC0;have hg1:=hg0.keeps kC (by simp);have c0:=hC0.cell 0;have kAC:=kA.trans kC;have hcall:=hide (hspr.out _ kAC ⟨hg1,hC0,Hl0.out,aQA.refl _ _⟩);clear hm hok H h64 hg0 hg1 hC0 kA kC hspr hnc;generalize hnn:m.rels.length=n at *;clear hnn;generalize hO:Obj.cells (natC (List.replicate n 0)) 3=ob at *;go_enter func202,ntmps202
 go_wp2_with fail
 refine (hlen.out _ (aQA.refl [] w)).mono ?_;rintro e w1 ⟨rfl,rfl⟩;go_wp2_with fail
 refine hcall.out.mono ?_;rintro e w2 ⟨rfl,vals,hS2,hst⟩;have c2:=hS2.cap.cell 0;have k2:aQA [] w1 w2:=kAC.trans_new hS2.keep (by simp);have HS2:=hide hS2;have Hst:=hide hst;clear hS2 hst;go_wp2_with fail
 go_ret
 exact ⟨⟨vals,rfl,HS2.out.row,HS2.out.inv,Hst.out⟩,k2⟩
theorem sizesOf_calls {w:World} {mb B:Nat} {m:Mean} (hm:jQB w mb B m) (hok:mQC m) {r:Nat} {s:ByteArray} {ds:List Nat} (hrs:m.rels[r]?=some (s,ds)):Calls prog 204 #[.pointer (some ⟨B,0,none⟩),.int .i64 (r:Int)] w fun e w'=>(∃ v,e=.returned v∧w'.ownsRow w.heap.size 3 1 v ds.length (bQI (ds.map m.size)))∧aQA [] w w':=by
 obtain ⟨i0,hi0,hz0,hz1,hz2⟩:=info_parts info3E;have hBl:=sQL hm;obtain ⟨gc,cc,av,cv,hgl,hdg,hcols⟩:=mean_col hm hrs;have hrl:r<m.rels.length:=by
  rcases Nat.lt_or_ge r m.rels.length with h | h
  ·exact h
  ·rw [List.getElem?_eq_none h] at hrs;cases hrs
 have hcl:=hok.cols _ (List.mem_of_getElem? hrs);have hds:=hcl.2;have hl3:ds.length≤3:=hcl.1;have hrI:(r:Int)<m.rels.length:=by omega
 obtain ⟨c5,cr,_⟩:=hcols (aQA.refl [] w);have Hcols:=hide (fun (W:World) (k:aQA [] w W)=>(hcols k).2.2);have Hdg:=hide hdg;have Hds:=hide hds;have Hsz:=hide (fun (d:Nat) (hd:d<m.doms.length)=>mean_size hm hd);have hd4:=hok.doms;clear hm hcols hdg hds hcl hok;go_enter func204,ntmps204
 go_wp2_with fail
 go_loopw [5,16] (fun y x wr=>∃ i:Nat,x=.int .i64 i∧i≤ds.length∧wr.ownsRow w.heap.size 3 1 y i (bQI ((ds.map m.size).take i))∧aQA [] w wr∧w.heap.size≤wr.heap.size) (fun _ x _=>ds.length - (intOf x).toNat)
 case atStart=>exact ⟨0,rfl,by omega,World.ownsRow_nil ..,aQA.refl [] w,Nat.le_refl _⟩
 case round=>
  clear c5 cr;obtain ⟨i,rfl,hil,own,kr,hsz⟩:=hrel;obtain ⟨ay,cy,rfl⟩:=fQA own;by_cases hlt:i<ds.length
  ·obtain ⟨d,hd⟩:∃ d,ds[i]?=some d:=⟨_,List.getElem?_eq_getElem hlt⟩;obtain ⟨gd,hgd,hgdl⟩:=Hdg.out d (List.mem_of_getElem? hd);subst hgd;have q0:=Hcols.out wr kr i d gd hd rfl;have hdl:=Hds.out d (List.mem_of_getElem? hd);obtain ⟨gk,ck,hgk,_,hsc⟩:=Hsz.out d hdl;obtain ⟨b2,n2⟩:=hsc kr;have hiI:(i:Int)<ds.length:=(by omega);have hdI:(d:Int)<m.doms.length:=(by omega);have hsr:=kr.size;have kB:=aQA.alloc [] wr (.cells #[.int .i64 (m.size d)] 3);have ownB:=bQA own kB (by simp);have Htake:Hid ((ds.map m.size).take (i+1)=(ds.map m.size).take i++[m.size d]):=hide (by rw [List.take_add_one,List.getElem?_map,hd];rfl);clear hsc hd;go_wp2_with (at_builtin;refine wpList_append_own_at _ rfl _ _ 40 rfl w.heap.size 3 i0 (.int .i64 0) 1 8 underlying40 hi0 hz0 hz1 hz2 rfl (by decide) _ i (bQI ((ds.map m.size).take i)) rfl ownB ⟨wr.heap.size,0,none⟩ 1 1 [.int .i64 (m.size d)] rfl (by simp) int_one (by simp [Value.oneCell']) (by unfold maxLen;omega) (by omega) (by rw [dQA];omega) ?_)
   intro v' W2 own4 grow4 nil4 at4;have k4:=grownBy_keeps' grow4 (Value.slice ay i cy).ownBlock.toList (fun r e=>.inl (by simp [e]));have kf:aQA [] w W2:=(kr.trans kB).trans_new k4 fun j hj=>.inr (hQA own j (by simpa using hj)).1;have Hown:=hide own4;clear own4 grow4 nil4 at4 ownB own;go_wp2_with fail
   go_roundw
   ·exact ⟨i+1,by simp,by omega,by rw [Htake.out,bQI,List.map_append];exact Hown.out,kf,kf.size⟩
   ·simp only [intOf];omega
  ·have hiI:¬ (i:Int)<ds.length:=(by omega);have e:i=ds.length:=(by omega);subst e;rw [List.take_of_length_le (by rw [List.length_map];omega)] at own;have Hown:=hide own;clear own;go_wp2_with fail
   go_ret
   exact ⟨⟨_,rfl,Hown.out⟩,kr⟩
end
section
open Go.RowKit
theorem all_calls {w:World} {B:Nat} {a:Option Addr} {n c:Nat} (hc:w.cell? ⟨B,3,none⟩=some (.slice a n c)):Calls prog 76 #[.pointer (some ⟨B,3,none⟩)] w fun e w'=>e=.returned (.func (.func 222) #[] #[.pointer (some ⟨w.heap.size,0,none⟩)])∧w' = w.alloc (.cells #[.slice a n c] 35):=by
 go_enter func76,ntmps76
 go_wp2
 go_ret
 exact ⟨rfl,rfl⟩
def eP (x:Nat×ByteArray):Array Value:=#[.int .i64 (x.1:Int),.string x.2]
def NthOf (ns:List ByteArray) (pre:List (Nat×ByteArray)) (x:Nat×ByteArray):Prop:=x.1=pre.length∧ns[pre.length]?=some x.2
def AllNth (ns:List ByteArray) (xs:List (Nat×ByteArray)):Prop:=xs.length=ns.length
theorem all_iter {w:World} {p g c:Nat} {ns:List ByteArray} {a:Option Addr} (hp0:cQA w p #[.slice a ns.length c]) (ha:∀ s∈ns,a=some ⟨g,0,none⟩∧g<w.heap.size) (hg:∀ {W:World},(∀ i,i=g→W.heap[i]?=w.heap[i]?)→∀ (i:Nat) (s:ByteArray),ns[i]?=some s→W.cell? ⟨g,i,none⟩=some (.string s)) (hl:ns.length≤1000000) (T:List Nat) (hT:∀ t∈T,t<w.heap.size∧t≠p∧(ns≠[]→t≠g)) :
  IterG 222 #[.pointer (some ⟨p,0,none⟩)] eP (NthOf ns) (AllNth ns) T w:=by
 intro n l J W hl' hlW hb hJ hY h0;have hp:=hp0.of_heap (w':=W) (hb.block p hp0.lt);have c0:=hp.cell 0;simp at c0;have HY:=hide hY;have HJ:=hide hJ;have Hg:=hide (fun (W:World) (h:∀ i,i=g→W.heap[i]?=w.heap[i]?)=>hg h);have Ha:=hide ha;have HT:=hide hT;have Hb:=hide hb;clear hY hJ hg ha hT hb;refine callsIn_of_wp func222 rfl trivial ?_ rfl;simp only [ntmps222,List.size_toArray,List.length_cons,List.length_nil,Nat.reduceAdd,Nat.reduceSub,Array.replicate_succ,Array.replicate_zero,List.push_toArray,List.append_toArray,List.nil_append,List.cons_append];gi_wp2_with fail
 gi_loopw [7] (fun x wr=>∃ (i:Nat) (xs:List (Nat×ByteArray)),x=.int .i64 i∧i=xs.length∧i≤ns.length∧J xs wr∧jQK w.heap.size (l :: T) W wr) (fun x _=>ns.length - (intOf x).toNat)
 case atStart=>exact ⟨0,[],rfl,rfl,by omega,h0,(aQA.refl [] W).grows (by simp)⟩
 case round=>
  obtain ⟨i,xs,rfl,hix,hil,hJs,hgr⟩:=hrel;clear c0 h0;have Hix:=hide hix;clear hix;by_cases hlt:i<ns.length
  ·obtain ⟨s,hs⟩:∃ s,ns[i]?=some s:=⟨_,List.getElem?_eq_getElem hlt⟩;obtain ⟨hag,hgl⟩:=Ha.out s (List.mem_of_getElem? hs);subst hag;have hne:ns≠[]:=by intro e;rw [e] at hlt;simp at hlt
   have hcell:=Hg.out wr (fun j hj=>by
    subst hj;refine (hgr.block j (Nat.lt_of_lt_of_le hgl Hb.out.size) (fun q=>?_) (.inl hgl)).trans (Hb.out.block j hgl);rcases List.mem_cons.1 q with q | q
    ·omega
    ·exact (HT.out j q).2.2 hne rfl) i s hs
   have hiI:(i:Int)<ns.length:=(by omega);obtain ⟨fn,tmps,assign,body,hy,hR⟩:=HY.out xs (i,s) wr hJs ⟨Hix.out,by rw [←Hix.out];exact hs⟩;simp only [eP] at hy;clear hs;gi_wp2_with fail
   refine ⟨fun h=>(nomatch h),?_⟩;refine hR.mono ?_;rintro e W3 ⟨rfl,hJ3,g3⟩;have hg3:jQK w.heap.size (l :: T) W W3:=hgr.trans g3;gi_wp2_with fail
   refine ⟨⟨i+1,xs++[(i,s)],by simp,by rw [List.length_append,List.length_singleton,←Hix.out],by omega,hJ3,hg3⟩,?_⟩;simp only [intOf];omega
  ·have hiI:¬ (i:Int)<ns.length:=(by omega);gi_wp2_with fail
   go_end0
   exact ⟨⟨_,rfl⟩,xs,by have:=Hix.out;unfold AllNth;omega,hJs,hgr⟩
end
section
open Go.RowKit
theorem listed_set {listed:Array Bool} {i j:Nat} (h:(listed.setIfInBounds i true).getD j false=true):j=i∨listed.getD j false=true:=by
 by_cases e:j=i
 ·exact .inl e
 ·right;rw [←h,Array.getD_eq_getD_getElem?,Array.getD_eq_getD_getElem?,Array.getElem?_setIfInBounds,if_neg (fun q=>e q.symm)]
theorem qQF {listed:Array Bool} {i j:Nat} (h:j≠i):(listed.setIfInBounds i true).getD j false=listed.getD j false:=by
 rw [Array.getD_eq_getD_getElem?,Array.getD_eq_getD_getElem?,Array.getElem?_setIfInBounds,if_neg (fun q=>h q.symm)]
def DepClosed (md:Region.Mode) (ops:Array Oper) (listed:Array Bool):Prop:=∀ j,listed.getD j false=true→∀ o,ops[j]?=some o→∀ e∈o.after,Region.binds md e=true→listed.getD e.on false=true
theorem eQE (n j:Nat):(Array.replicate n false).getD j false=false:=by
 rw [Array.getD_eq_getD_getElem?,Array.getElem?_replicate];split <;> rfl
theorem listed_more {listed:Array Bool} {i j:Nat} (h:listed.getD j false=true):(listed.setIfInBounds i true).getD j false=true:=by
 by_cases e:j=i
 ·subst e;have hj:j<listed.size:=by
   rcases Nat.lt_or_ge j listed.size with q | q
   ·exact q
   ·simp [Array.getD,Nat.not_lt.2 q] at h
  rw [Array.getD_eq_getD_getElem?,Array.getElem?_setIfInBounds,if_pos rfl,if_pos hj];rfl
 ·rw [qQF e];exact h
def earlier (ops:Array Oper):Bool:=(List.range ops.size).all fun i=>((ops[i]?).map fun o=>o.after.all fun e=>decide (e.on<i)).getD true
theorem ready_nil {md:Region.Mode} {ops:Array Oper} {listed:Array Bool} (hb:earlier ops=true) (hsz:listed.size=ops.size) (h:Region.ready md ops listed=[]):∀ i,i<ops.size→listed.getD i false=true:=by
 intro i;induction i using Nat.strongRecOn with
 | ind i ih=>
  intro hi;have hi':i<listed.size:=by omega
  rcases hv:listed.getD i false with _ | _
  ·exfalso;have hm:i∈Region.ready md ops listed:=by
    simp only [Region.ready,List.mem_filter,List.mem_range,Bool.and_eq_true,Bool.not_eq_true'];refine ⟨hi,?_,?_⟩
    ·simp [Array.getD,hi'] at hv ⊢;exact hv
    ·rw [Array.getElem?_eq_getElem hi];simp only [Option.map_some,Option.getD_some,Array.all_eq_true_iff_forall_mem,Bool.or_eq_true];intro e he;right;unfold earlier at hb;rw [List.all_eq_true] at hb;have h2:=hb i (List.mem_range.2 hi);rw [Array.getElem?_eq_getElem hi] at h2;simp only [Option.map_some,Option.getD_some,Array.all_eq_true_iff_forall_mem,decide_eq_true_eq] at h2;have h3:=h2 e he;exact ih e.on h3 (by omega)
   rw [h] at hm;cases hm
  ·rfl
theorem aQJ {n:Nat} {P:Program} {ops:Array Oper} {Q:Exit→Act→World→Prop} {F:Fence} {id:Nat} {a:Act} {w:World} {S:Array Bool→Act→World→Prop} (hm:P.follows .mixedOrders=true) (hb:earlier ops=true) (h0:S (Array.replicate ops.size false) a w.drew) (hstep:∀ listed a w i,S listed a w→DepClosed .any ops listed→listed.size=ops.size→i<ops.size→listed.getD i false=false→(∀ o,ops[i]?=some o→∀ e∈o.after,Region.binds .any e=true→listed.getD e.on false=true)→wpOpIn F n P ops Q i (S (listed.setIfInBounds i true)) a w) (hend:∀ listed a w,S listed a w→(∀ i,i<ops.size→listed.getD i false=true)→Q .normal a w):(Code.region id ops true).wpIn F n P Q a w:=by
 refine wpIn_region_inv (S:=fun listed a w=>S listed a w∧DepClosed .any ops listed∧listed.size=ops.size) hm ⟨h0,fun j hj=>(by rw [eQE] at hj;cases hj),Array.size_replicate⟩ (fun listed a w i hS hi=>?_) (fun listed a w hS hr=>hend listed a w hS.1 (ready_nil hb hS.2.2 hr));obtain ⟨h1,h2,h3⟩:=ready_spec hi;have h2':listed.getD i false=false:=by
  have hi':i<listed.size:=by rw [hS.2.2];exact h1
  simp [Array.getD,hi'] at h2 ⊢;exact h2
 refine wpOpIn_mono (fun a w h=>⟨h,?_,by rw [Array.size_setIfInBounds];exact hS.2.2⟩) (hstep listed a w i hS.1 hS.2.1 hS.2.2 h1 h2' h3);intro j hj o ho e he hb;rcases listed_set hj with q | q
 ·subst q;exact listed_more (h3 o ho e he hb)
 ·exact listed_more (hS.2.1 j q o ho e he hb)
structure Flow (base N:Nat) (φ:Nat→Value→World→Prop) (a0:Act) (W:World) (listed:Array Bool) (a:Act) (w:World):Prop where
 size:a.tmps.size=a0.tmps.size
 low:∀ j,j<base→a.eval (.tmp j)=a0.eval (.tmp j)
 dfr:a.defers=a0.defers
 keep:aQA [] W w
 got:∀ j,j<N→listed.getD j false=true→φ j (a.eval (.tmp (base+j))) w
 room:listed.size=N+2
 more:listed.getD N false=false∧listed.getD (N+1) false=false
theorem Flow.put {base N:Nat} {φ:Nat→Value→World→Prop} {a0:Act} {W:World} {listed:Array Bool} {a:Act} {w w':World} {i:Nat} {v:Value} (h:Flow base N φ a0 W listed a w) (hs:∀ j v w w',φ j v w→aQA [] w w'→φ j v w') (k:aQA [] w w') (hi:i<N) (hb:base+N≤a0.tmps.size) (hv:φ i v w'):Flow base N φ a0 W (listed.setIfInBounds i true) (a.put (some (base+i)) v) w':=by
 refine ⟨by rw [put_size];exact h.size,fun j hj=>by rw [put_eval (by omega)];exact h.low j hj,by rw [put_defers];exact h.dfr,h.keep.trans k,fun j hj hl=>?_,by rw [Array.size_setIfInBounds];exact h.room,?_⟩
 ·by_cases e:j=i
  ·subst e;rw [mQG (by rw [h.size];omega)];exact hv
  ·rw [put_eval (by omega)];rw [qQF e] at hl;exact hs _ _ _ _ (h.got j hj hl) k
 ·rw [qQF (by omega),qQF (by omega)];exact h.more
structure RelM where
 name:ByteArray
 sizes:List Int
 layer:Nat
def nQE (w:World) (base:Nat) (X:List Nat):List RelM→List Value→Prop
 | [],vs=>vs=[]
 | r :: rs,vs=>∃ v rest,vs=[.string r.name,v,.int .i64 (r.layer:Int)]++rest∧w.ownsRow base 3 1 v r.sizes.length (bQI r.sizes)∧(∀ j∈ownL v,j∉X)∧nQE w base X rs rest
theorem nQE.keeps {w w':World} {base:Nat} {X T:List Nat} {rs:List RelM} {vs:List Value} (h:nQE w base X rs vs) (k:aQA T w w') (hT:∀ j∈T,j∈X∨j<base∨w.heap.size≤j):nQE w' base X rs vs:=by
 induction rs generalizing vs with
 | nil=>exact h
 | cons r rs ih=>
  obtain ⟨v,rest,h1,h2,h3,h4⟩:=h;exact ⟨v,rest,h1,keepRow h2 h3 k hT,h3,ih h4⟩
theorem nQE.apart {w:World} {base:Nat} {X Y:List Nat} {rs:List RelM} {vs:List Value} (h:nQE w base X rs vs) (hY:∀ j∈Y,j∈X∨w.heap.size≤j):nQE w base Y rs vs:=by
 induction rs generalizing vs with
 | nil=>exact h
 | cons r rs ih=>
  obtain ⟨v,rest,h1,h2,h3,h4⟩:=h;exact ⟨v,rest,h1,h2,apartRow h2 h3 hY,ih h4⟩
theorem nQE.snoc {w:World} {base:Nat} {X:List Nat} {rs:List RelM} {vs:List Value} (h:nQE w base X rs vs) {r:RelM} {v:Value} (h2:w.ownsRow base 3 1 v r.sizes.length (bQI r.sizes)) (h3:∀ j∈ownL v,j∉X):nQE w base X (rs++[r]) (vs++[.string r.name,v,.int .i64 (r.layer:Int)]):=by
 induction rs generalizing vs with
 | nil=>
  have e:vs=[]:=h;subst e;exact ⟨v,[],rfl,h2,h3,rfl⟩
 | cons x rs ih=>
  obtain ⟨u,rest,k1,k2,k3,k4⟩:=h;exact ⟨u,rest++[.string r.name,v,.int .i64 (r.layer:Int)],by rw [k1];simp,k2,k3,ih k4⟩
theorem info144:(prog.info? 144).map (fun i=>(i.zero,i.size,i.bytes))=some (some (.agg #[.string ⟨#[]⟩,.slice none 0 0,.int .i64 0]),3,48):=by kernel_rfl
def relφ (W:World) (B gL:Nat) (n i:Nat) (v:Value) (r:RelM):Nat→Value→World→Prop
 | 0,u,_=>u=v
 | 1,u,_=>u=.string r.name
 | 2,u,_=>u=.string r.name
 | 3,u,_=>u=.pointer (some ⟨B,0,none⟩)
 | 4,u,_=>u=.int .i64 (i:Int)
 | 5,u,w=>w.ownsRow W.heap.size 3 1 u r.sizes.length (bQI r.sizes)
 | 6,u,_=>u=.slice (some ⟨gL,0,none⟩) n n
 | 7,u,_=>u=.int .i64 (i:Int)
 | 8,u,_=>u=.pointer (some ⟨gL,i,none⟩)
 | 9,u,_=>u=.int .i64 (r.layer:Int)
 | 10,u,w=>∃ sv,u=.agg #[.string r.name,sv,.int .i64 (r.layer:Int)]∧w.ownsRow W.heap.size 3 1 sv r.sizes.length (bQI r.sizes)
 | 11,u,w=>∃ sv g,u=.slice (some ⟨g,0,none⟩) 1 1∧cQA w g #[.string r.name,sv,.int .i64 (r.layer:Int)]∧W.heap.size≤g∧w.ownsRow W.heap.size 3 1 sv r.sizes.length (bQI r.sizes)
 | _,_,_=>True
theorem relφ_keeps {W:World} {B gL n i:Nat} {v:Value} {r:RelM} (j:Nat) (u:Value) (w w':World) (h:relφ W B gL n i v r j u w) (k:aQA [] w w'):relφ W B gL n i v r j u w':=by
 rcases j with _ | _ | _ | _ | _ | _ | _ | _ | _ | _ | _ | _ | j
 all_goals first
  | exact h
  | exact bQA h k (by simp)
  | (obtain ⟨sv,h1,h2⟩:=h;exact ⟨sv,h1,bQA h2 k (by simp)⟩)
  | (obtain ⟨sv,g,h1,h2,h3,h4⟩:=h;exact ⟨sv,g,h1,h2.keeps k (by simp),h3,bQA h4 k (by simp)⟩)
end
section
open Go.RowKit
def lQE (m:Mean) (vals:List Nat):List RelM:=m.rels.zipIdx.map fun p=>⟨p.1.1,p.1.2.map m.size,vals.getD p.2 0⟩
theorem relsM_at {m:Mean} {vals:List Nat} {i:Nat} {s:ByteArray} {ds:List Nat} (h:m.rels[i]?=some (s,ds)):(lQE m vals)[i]?=some ⟨s,ds.map m.size,vals.getD i 0⟩:=by
 simp [lQE,List.getElem?_zipIdx,h]
theorem mQJ {m:Mean} {vals:List Nat}:(lQE m vals).length=m.rels.length:=by simp [lQE]
def RelI (W0:World) (b4 base:Nat) (rs:List RelM) (pre:List (Nat×ByteArray)) (W:World):Prop:=aQA [b4] W0 W∧∃ v vs,cQA W b4 #[v]∧W.ownsRow base 144 3 v pre.length vs∧nQE W base (ownL v) (rs.take pre.length) vs
theorem still_row {b base:Nat} {e:TypeId} {size n:Nat} {v:Value} {xs:List Value} {w w':World} (h:w.ownsRow base e size v n xs) (hs:fQK b w w'):w'.ownsRow base e size v n xs:=by
 obtain ⟨e0,⟨e1,e2⟩ | ⟨g,cap,cur,e1,e2,e3,e4⟩⟩:=h
 ·exact ⟨e0,.inl ⟨e1,e2⟩⟩
 ·exact ⟨e0,.inr ⟨g,cap,cur,e1,e2,(hs.block _ (Array.getElem?_eq_some_iff.1 e3).1 (.inr ⟨_,_,_,e3⟩)).trans e3,e4⟩⟩
theorem nQE.still {b:Nat} {w w':World} {base:Nat} {X:List Nat} {rs:List RelM} {vs:List Value} (h:nQE w base X rs vs) (hs:fQK b w w'):nQE w' base X rs vs:=by
 induction rs generalizing vs with
 | nil=>exact h
 | cons r rs ih=>
  obtain ⟨v,rest,h1,h2,h3,h4⟩:=h;exact ⟨v,rest,h1,still_row h2 hs,h3,ih h4⟩
theorem run_move {a:Act} {o:Oper} {w:World} {x:Operand} {v:Value} (hop:o.op=.move x) (hx:a.eval x=v):(execOp a.eval o).run prog w=.ok (.value v) w:=by
 simp [execOp,hop,hx]
theorem run_append {a:Act} {o:Oper} {w:World} {x y:Operand} {t base e size bytes n m c:Nat} {i:TypeInfo} {z v:Value} {xs news:List Value} {ad:Addr} (hop:o.op=.call { callee:=.builtin .append,args:=#[x,y],argTypes:=#[t,t] }) (hx:a.eval x=v) (hy:a.eval y=.slice (some ad) m c) (ht:prog.underlying t=some (.slice e)) (hi:prog.info? e=some i) (hz:i.zero=some z)
  (hsize:i.size=size) (hby:i.bytes=bytes) (hzs:z.cells.size=size) (hsz:0<size) (hown:w.ownsRow base e size v n xs) (hl:news.length=m * size) (hnews:∀ j u,news[j]?=some u→w.cell? (ad.add j)=some u) (h1:∀ u∈news,u.oneCell' = true)
  (h63:n+m≤maxLen) (hbytes:(n+m) * bytes≤140737488355328) (hbase:base≤w.heap.size) :
  ∃ v' w',(execOp a.eval o).run prog w=.ok (.value v') w'∧w'.ownsRow base e size v' (n+m) (xs++news)∧w.grownBy w' v.ownBlock∧(v'.ownBlock=v.ownBlock∨v'.ownBlock=some w.heap.size):=by
 obtain ⟨v',w',hr,h2,h3,_,h5⟩:=run_append_own_at (P:=prog) w base t o.type e i z size bytes ht hi hz hsize hby hzs hsz v n xs hown ad m c news hl hnews h1 h63 hbytes hbase;refine ⟨v',w',?_,h2,h3,h5⟩;simp only [execOp,hop,resolve,invoke,builtin,Sem.run_bind,Sem.run_pure,Result.andThen_ok,List.map_toArray,List.map_cons,List.map_nil,hx,hy,hr]
theorem ld123 {o:Oper} {a:Act} {u:World} {x:Operand} {b k:Nat} {v:Value} (hop:o.op=.load 123 x) (hx:a.eval x=.pointer (some ⟨b,k,none⟩)) (c:u.cell? ⟨b,k,none⟩=some v):(execOp a.eval o).run prog u=.ok (.value v) u:=by
 simp only [execOp,hop,hx];go_simp
theorem ld201 {o:Oper} {a:Act} {u:World} {x:Operand} {b k:Nat} {v:Value} (hop:o.op=.load 201 x) (hx:a.eval x=.pointer (some ⟨b,k,none⟩)) (c:u.cell? ⟨b,k,none⟩=some v):(execOp a.eval o).run prog u=.ok (.value v) u:=by
 simp only [execOp,hop,hx];go_simp
theorem ld40 {o:Oper} {a:Act} {u:World} {x:Operand} {b k:Nat} {v:Value} (hop:o.op=.load 40 x) (hx:a.eval x=.pointer (some ⟨b,k,none⟩)) (c:u.cell? ⟨b,k,none⟩=some v):(execOp a.eval o).run prog u=.ok (.value v) u:=by
 simp only [execOp,hop,hx];go_simp
theorem ld3 {o:Oper} {a:Act} {u:World} {x:Operand} {b k:Nat} {v:Value} (hop:o.op=.load 3 x) (hx:a.eval x=.pointer (some ⟨b,k,none⟩)) (c:u.cell? ⟨b,k,none⟩=some v):(execOp a.eval o).run prog u=.ok (.value v) u:=by
 simp only [execOp,hop,hx];go_simp
theorem ix40 {o:Oper} {a:Act} {u:World} {x y:Operand} {b i n c:Nat} (hop:o.op=.indexAddr 40 x y) (hx:a.eval x=.slice (some ⟨b,0,none⟩) n c) (hy:a.eval y=.int .i64 (i:Int)) (hi:(i:Int)<n):(execOp a.eval o).run prog u=.ok (.value (.pointer (some ⟨b,i,none⟩))) u:=by
 simp only [execOp,hop,hx,hy];go_simp
theorem bd144 {o:Oper} {a:Act} {u:World} {x y z:Operand} {s:ByteArray} {sa:Option Addr} {sn sc:Nat} {L:Int} (hop:o.op=.build 144 #[(0,x),(1,y),(2,z)]) (hx:a.eval x=.string s) (hy:a.eval y=.slice sa sn sc) (hz:a.eval z=.int .i64 L):(execOp a.eval o).run prog u=.ok (.value (.agg #[.string s,.slice sa sn sc,.int .i64 L])) u:=by
 simp only [execOp,hop,List.map_toArray,List.map_cons,List.map_nil,hx,hy,hz];go_simp
theorem bs123 {o:Oper} {a:Act} {u:World} {x:Operand} {s:ByteArray} {sa:Option Addr} {sn sc:Nat} {L:Int} (hop:o.op=.buildSlice 123 1 #[(0,x)]) (hx:a.eval x=.agg #[.string s,.slice sa sn sc,.int .i64 L]):(execOp a.eval o).run prog u=.ok (.value (.slice (some ⟨u.heap.size,0,none⟩) 1 1)) (u.alloc (.cells #[.string s,.slice sa sn sc,.int .i64 L] 144)):=by
 simp only [execOp,hop,List.map_toArray,List.map_cons,List.map_nil,hx];go_simp
theorem st123 {o:Oper} {a:Act} {u:World} {x y:Operand} {b:Nat} {v:Value} {sa:Option Addr} {sn sc:Nat} (hop:o.op=.store 123 x y) (hx:a.eval x=.pointer (some ⟨b,0,none⟩)) (hy:a.eval y=.slice sa sn sc) (c:u.cell? ⟨b,0,none⟩=some v) (f:u.frozen? ⟨b,0,none⟩=false):(execOp a.eval o).run prog u=.ok .skip (u.setCell ⟨b,0,none⟩ (.slice sa sn sc)):=by
 simp only [execOp,hop,hx,hy];go_simp
theorem nQE.noCells {w w':World} {base base' d:Nat} {X:List Nat} {rs:List RelM} {vs:List Value} (h:nQE w base X rs vs) (k:aQA [d] w w') (hd:∀ cs t f,w.heap[d]?≠some (.cells cs t f)) (hb:base'≤base):nQE w' base' X rs vs:=by
 induction rs generalizing vs with
 | nil=>exact h
 | cons r rs ih=>
  obtain ⟨v,rest,h1,h2,h3,h4⟩:=h;refine ⟨v,rest,h1,sQA (bQA h2 k (fun j hj q=>?_)) hb,h3,ih h4⟩;have e:j=d:=(by simpa using q);obtain ⟨_,cs,t,b2⟩:=hQA h2 j hj;rw [e] at b2;exact hd _ _ _ b2
end
section
open Go.RowKit
def RelDone (W5 W:World) (b4:Nat) (rs:List RelM) (pre:List (Nat×ByteArray)) (nv:Value) (w':World):Prop:=∃ v vs,cQA w' b4 #[v]∧w'.ownsRow W5.heap.size 144 3 nv (pre.length+1) vs∧nQE w' W5.heap.size (ownL nv) (rs.take (pre.length+1)) vs∧aQA [b4] W5 w'∧jQK W5.heap.size [b4] W w'∧(∀ j∈ownL nv,j≠b4)
set_option maxHeartbeats 8000000 in
theorem rels_in (n:Nat) {w:World} {mb B:Nat} {m:Mean} (hm:jQB w mb B m) (hok:mQC m) (hnc:∀ c∈m.clauses,hQG m.rels.length (sQC m.clauses) c=false) (hnm:∀ r∈m.rels,r.1.size≤1000000) :
  CallsIn Fence.wide n prog 138 #[.pointer (some ⟨B,0,none⟩)] w fun e w'=>(∃ vals v vs,LayI m.clauses m.rels.length vals∧rQE layG m.clauses vals∧e=.returned v∧w'.ownsRow w.heap.size 144 3 v m.rels.length vs∧nQE w' w.heap.size (ownL v) (lQE m vals) vs)∧aQA [] w w':=by
 obtain ⟨i0,hi0,hz0,hz1,hz2⟩:=info_parts info144;have hBl:=sQL hm;have hn6:=hok.rels;have k1:=aQA.alloc [] w (.cells #[.pointer (some ⟨B,0,none⟩)] 201);have a1:=cQA.new w #[.pointer (some ⟨B,0,none⟩)] 201;have hlay:=hide (layers_calls (hm.keeps k1 (by simp)) hok hnc);rw [dQA] at hlay;obtain ⟨tD,mD,sz,tN,mN,co,cl,ln,cvs,kvs,hV⟩:=id hm;obtain ⟨aN,cN,hN⟩:=fQA hV.names.row;rw [List.length_map] at hN;subst hN;have Hm:=hide hm;have Hok:=hide hok;have HV:=hide hV;clear hm hok hnc hV;refine callsIn_of_wp_marks func138 rfl trivial ?_ rfl;simp only [ntmps138,List.size_toArray,List.length_cons,List.length_nil,Nat.reduceAdd,Nat.reduceSub,Array.replicate_succ,Array.replicate_zero,List.push_toArray,List.append_toArray,List.nil_append,List.cons_append];gi_wp2_with fail
 refine ⟨trivial,fun h=>(nomatch h),?_⟩;refine (callsIn_wide.2 hlay.out).mono ?_;rintro e w1 ⟨⟨vals,rfl,hL,hLI,hLs⟩,k2⟩;have z1:w.heap.size+2≤w1.heap.size:=hL.lt;have a1':=a1.keeps k2 (by simp);have kw1:=k1.trans k2;have k3:=aQA.alloc [] w1 (.cells #[.slice (some ⟨w.heap.size+1,0,none⟩) m.rels.length m.rels.length] 40);have a3:=cQA.new w1 #[.slice (some ⟨w.heap.size+1,0,none⟩) m.rels.length m.rels.length] 40;have k4:=aQA.alloc [] (w1.alloc (.cells #[.slice (some ⟨w.heap.size+1,0,none⟩) m.rels.length m.rels.length] 40)) (.cells #[.slice none 0 0] 123);have a4:=cQA.new (w1.alloc (.cells #[.slice (some ⟨w.heap.size+1,0,none⟩) m.rels.length m.rels.length] 40)) #[.slice none 0 0] 123;rw [dQA] at a4;have k34:=k3.trans k4;have b1:=a1'.keeps k34 (by simp);have bL:=hL.keeps k34 (by simp);have b3:=a3.keeps k4 (by simp);have kw4:=kw1.trans k34;have c1:=a1'.cell 0;simp at c1;have zz:((w1.alloc (.cells #[.slice (some ⟨w.heap.size+1,0,none⟩) m.rels.length m.rels.length] 40)).alloc (.cells #[.slice none 0 0] 123)).heap.size=w1.heap.size+2:=by rw [dQA,dQA]
 have cN3:=(HV.out.cells.keeps kw4 (by simp)).cell 3;have hB3:=all_calls (w:=(w1.alloc (.cells #[.slice (some ⟨w.heap.size+1,0,none⟩) m.rels.length m.rels.length] 40)).alloc (.cells #[.slice none 0 0] 123)) (B:=B) cN3;have HB3:=hide hB3;clear hB3 cN3 k3 k4 a3 k34 a1 a1' hL hlay;have hw1l:w.heap.size<w1.heap.size:=by omega
 gi_wp2_with fail
 generalize (w1.alloc (.cells #[.slice (some ⟨w.heap.size+1,0,none⟩) m.rels.length m.rels.length] 40)).alloc (.cells #[.slice none 0 0] 123)=W4 at *;refine ⟨trivial,fun h=>(nomatch h),?_⟩;refine (callsIn_wide.2 HB3.out).mono ?_;rintro e w5 ⟨rfl,rfl⟩;have k5:=aQA.alloc [] W4 (.cells #[.slice aN m.rels.length cN] 35);have hp5:=cQA.new W4 #[.slice aN m.rels.length cN] 35;have d1:=b1.keeps k5 (by simp);have dL:=bL.keeps k5 (by simp);have d3:=b3.keeps k5 (by simp);have d4:=a4.keeps k5 (by simp);have kw5:=kw4.trans k5;have z5:(W4.alloc (.cells #[.slice aN m.rels.length cN] 35)).heap.size=w1.heap.size+3:=by rw [dQA,zz]
 have hit:=all_iter (w:=W4.alloc (.cells #[.slice aN m.rels.length cN] 35)) (p:=W4.heap.size) (g:=(aN.map (·.block)).getD 0) (c:=cN) (ns:=m.rels.map Prod.fst) (a:=aN) (by rw [List.length_map];exact hp5) (fun s hs=>by
   have hpos:0<(m.rels.map Prod.fst).length:=List.length_pos_of_mem hs;have hrow:=HV.out.names.row;have hle:(m.rels.map Prod.fst).length=m.rels.length:=(by rw [List.length_map]);rw [hle] at hrow hpos;obtain ⟨g,hg⟩:=aQC hrow hpos;subst hg;exact ⟨rfl,Nat.lt_of_lt_of_le (qQA hrow g rfl).2 kw5.size⟩) (fun {W} hW i s hs=>by
   have hrow:=HV.out.names.row;have hle:(m.rels.map Prod.fst).length=m.rels.length:=(by rw [List.length_map]);rw [hle] at hrow;have hpos:0<m.rels.length:=by
    rcases Nat.lt_or_ge i (m.rels.map Prod.fst).length with q | q
    ·rw [hle] at q;omega
    ·rw [List.getElem?_eq_none q] at hs;cases hs
   obtain ⟨g,hg⟩:=aQC hrow hpos;subst hg;have h5:=bQA hrow kw5 (by simp);have hc:=mQA h5 (j:=i) (v:=.string s) (by simp [eS];simpa using hs);have hb:W.heap[g]?=(W4.alloc (.cells #[.slice (some ⟨g,0,none⟩) m.rels.length cN] 35)).heap[g]?:=hW g rfl;obtain ⟨_,⟨h1,_⟩ | ⟨g',cap,cur,hv,hb',hg,hn,hc',hs',htk⟩⟩:=h5
   ·cases h1
   ·cases hv;have hcc:cQA W g cur:=⟨_,by rw [hb];exact hg⟩;have hcc':cQA (W4.alloc (.cells #[.slice (some ⟨g,0,none⟩) m.rels.length cN] 35)) g cur:=⟨_,hg⟩;rw [hcc'.cell] at hc;show W.cell? ⟨g,i,none⟩=_;rw [hcc.cell];exact hc) (by rw [List.length_map];omega) [w1.heap.size+1] (fun t ht=>by
   have e:t=w1.heap.size+1:=(by simpa using ht);refine ⟨by rw [z5];omega,by rw [e,zz];omega,fun hne=>?_⟩;have hrow:=HV.out.names.row;have hle:(m.rels.map Prod.fst).length=m.rels.length:=(by rw [List.length_map]);have hpos:0<(m.rels.map Prod.fst).length:=List.length_pos_iff.2 hne;rw [hle] at hrow hpos;obtain ⟨g,hg⟩:=aQC hrow hpos;subst hg;have:=(qQA hrow g rfl).2;show t≠g
   omega)
 have h0:RelI (W4.alloc (.cells #[.slice aN m.rels.length cN] 35)) (w1.heap.size+1) (W4.alloc (.cells #[.slice aN m.rels.length cN] 35)).heap.size (lQE m vals) [] (W4.alloc (.cells #[.slice aN m.rels.length cN] 35)):=⟨aQA.refl _ _,.slice none 0 0,[],d4,World.ownsRow_nil ..,rfl⟩;have Hd1:=hide d1;have HdL:=hide dL;have Hd3:=hide d3;have Hkw:=hide kw5;clear d1 dL d3 d4 kw5 hp5 k5 a4 b1 bL b3 kw4 kw1 HB3;generalize hW5:W4.alloc (.cells #[.slice aN m.rels.length cN] 35)=W5 at *;rw [zz] at hit;gi_wp2_with fail
 refine range_lawG (gf:=222) (lb:=#[.pointer (some ⟨w1.heap.size+2,0,none⟩)]) rfl (enters_of func222 (by kernel_rfl) rfl) (T:=[w1.heap.size+1]) (by simp;omega) hit (fun _=>rfl)
  (RelI W5 (w1.heap.size+1) W5.heap.size (lQE m vals))
  (fun pre W1 W2 hI hs=>by
   obtain ⟨kk,v,vs,h1,h2,h3⟩:=hI;have hlt:=h1.lt
   refine ⟨⟨hs.os.trans kk.os,hs.tape.trans kk.tape,hs.output.trans kk.output,Nat.le_trans kk.size hs.size,fun i hi hn=>(hs.block i (Nat.lt_of_lt_of_le hi kk.size) (.inl hi)).trans (kk.block i hi hn)⟩,v,vs,h1.of_heap (hs.block _ hlt (.inl (by omega))),still_row h2 hs,h3.still hs⟩) h0
  (fun x a' _=>a' = { tmps:=#[.pointer (some ⟨B,0,none⟩),.pointer (some ⟨w.heap.size,0,none⟩),.slice none 0 0,.pointer (some ⟨w1.heap.size,0,none⟩),.pointer (some ⟨w1.heap.size+1,0,none⟩),.int .i64 (x.1:Int),.string x.2,.pointer (some ⟨B,0,none⟩),.slice (some ⟨w.heap.size+1,0,none⟩) m.rels.length m.rels.length,.pointer (some ⟨B,0,none⟩),.pointer (some ⟨B,0,none⟩),.pointer (some ⟨B,3,none⟩),.func (.func 222) #[] #[.pointer (some ⟨w1.heap.size+2,0,none⟩)],.int .i64 (x.1:Int),.string x.2,undef,undef,undef,undef,undef,undef,undef,undef,undef,undef,undef,undef,undef,undef],defers:=[] })
  (fun x a' W1 W2 h _=>h) ?assign ?body ?done
 case assign=>
  intro l pre x W K hlt hi hc hK;simp only [eP,List.zip_toArray,List.zip_cons_cons,List.zip_nil_right,List.foldl_toArray',List.size_toArray,List.length_cons,List.length_nil,List.foldl_cons,List.foldl_nil,List.setIfInBounds_toArray,List.set_cons_succ,List.set_cons_zero];gi_wp2
  exact hK _ _ rfl (aQA.refl _ _)
 case body=>
  rintro l pre ⟨i,s⟩ a' W hlt ⟨kW,v,vs,hc4,hown,hrv⟩ ⟨hi,hs⟩ rfl;have hfol:prog.follows .mixedOrders=true:=by kernel_rfl
  have hi':i=pre.length:=hi;subst hi';have hrs:∃ ds,m.rels[pre.length]?=some (s,ds):=by
   rw [List.getElem?_map] at hs;cases hq:m.rels[pre.length]? with
   | none=>rw [hq] at hs;cases hs
   | some q=>rw [hq] at hs;cases hs;exact ⟨q.2,rfl⟩
  obtain ⟨ds,hrs⟩:=hrs;have hrm:=relsM_at (vals:=vals) hrs;have hprl:pre.length<m.rels.length:=by
   rcases Nat.lt_or_ge pre.length m.rels.length with q | q
   ·exact q
   ·rw [List.getElem?_eq_none q] at hrs;cases hrs
  have hnl:s.size≤1000000:=hnm _ (List.mem_of_getElem? hrs);have kwW:aQA [] w W:=Hkw.out.trans_new kW (fun j hj=>.inr (by have e:j=w1.heap.size+1:=(by simpa using hj);omega));have e1:=Hd1.out.keeps kW (by simp;omega);have eL:=HdL.out.keeps kW (by simp;omega);have e3:=Hd3.out.keeps kW (by simp);have Hsz:=hide (fun (W':World) (k:aQA [] W W')=>sizesOf_calls (Hm.out.keeps (kwW.trans k) (by simp)) Hok.out hrs);have hvl:vals.length=m.rels.length:=hLI.1;generalize hRM:(⟨s,ds.map m.size,vals.getD pre.length 0⟩:RelM)=r at *;have hrn:r.name=s:=by rw [←hRM]
  have hrz:r.sizes=ds.map m.size:=by rw [←hRM]
  have hrl:r.layer=vals.getD pre.length 0:=by rw [←hRM]
  have hzW:=kW.size;have Hown:=hide hown;have Hrv:=hide hrv;clear hit hown hrv h0;gi_wp2_with fail
  refine aQJ (S:=fun listed a w'=>Flow 15 12 (relφ W B (w.heap.size+1) m.rels.length pre.length v r) { tmps:=#[.pointer (some ⟨B,0,none⟩),.pointer (some ⟨w.heap.size,0,none⟩),.slice none 0 0,.pointer (some ⟨w1.heap.size,0,none⟩),.pointer (some ⟨w1.heap.size+1,0,none⟩),.int .i64 (pre.length:Int),.string s,.pointer (some ⟨B,0,none⟩),.slice (some ⟨w.heap.size+1,0,none⟩) m.rels.length m.rels.length,.pointer (some ⟨B,0,none⟩),.pointer (some ⟨B,0,none⟩),.pointer (some ⟨B,3,none⟩),.func (.func 222) #[] #[.pointer (some ⟨w1.heap.size+2,0,none⟩)],.int .i64 (pre.length:Int),.string s,undef,undef,undef,undef,undef,undef,undef,undef,undef,undef,undef,undef,undef,undef],defers:=[] } W listed a w'
    ∨ (listed.getD 12 false=true∧listed.getD 13 false=false∧a.eval (.tmp 4)=.pointer (some ⟨w1.heap.size+1,0,none⟩)∧∃ nv,a.eval (.tmp 27)=nv∧RelDone W5 W (w1.heap.size+1) (lQE m vals) pre nv w')
    ∨ (listed.getD 13 false=true∧RelI W5 (w1.heap.size+1) W5.heap.size (lQE m vals) (pre++[(pre.length,s)]) w'∧jQK W5.heap.size [w1.heap.size+1] W w')) hfol (by kernel_rfl) ?_ ?_ ?_
  ·exact .inl ⟨rfl,fun _ _=>rfl,rfl,aQA.drew [] W,fun j hj hl=>(by rw [eQE] at hl;cases hl),rfl,eQE _ _,eQE _ _⟩
  ·intro listed a u i hS hcl hlz hi14 hin hdep;rcases hS with hF | ⟨h12,h13,hp4,nv,hnv,hD⟩ | ⟨h13,_⟩
   ·have put:=fun {j:Nat} {u':World} {v':Value} (k:aQA [] u u') (hj:j<12) (hv:relφ W B (w.heap.size+1) m.rels.length pre.length v r j v' u')=>hF.put (i:=j) (relφ_keeps (W:=W) (B:=B) (gL:=w.heap.size+1) (n:=m.rels.length) (i:=pre.length) (v:=v) (r:=r)) k hj (show 27≤29 by omega) hv;have keep:=hF.keep;have t1:a.eval (.tmp 1)=.pointer (some ⟨w.heap.size,0,none⟩):=hF.low 1 (by omega);have t3:a.eval (.tmp 3)=.pointer (some ⟨w1.heap.size,0,none⟩):=hF.low 3 (by omega);have t4:a.eval (.tmp 4)=.pointer (some ⟨w1.heap.size+1,0,none⟩):=hF.low 4 (by omega);have t5:a.eval (.tmp 5)=.int .i64 (pre.length:Int):=hF.low 5 (by omega);have t6:a.eval (.tmp 6)=.string s:=hF.low 6 (by omega);have got:=fun (j:Nat) (hj:j<12) (hl:listed.getD j false=true)=>hF.got j hj hl;match i,hi14,hdep,hin with
    | 0,_,hdep,_=>
     have c:=(hc4.keeps keep (by simp)).cell 0;exact cQD rfl rfl (by intro c h;cases h) (ld123 rfl t4 c) (.inl (put (aQA.refl _ _) (by omega) rfl))
    | 1,_,hdep,_=>exact cQD rfl rfl (by intro c h;cases h) (run_move rfl t6) (.inl (put (aQA.refl _ _) (by omega) (by rw [←hrn];rfl)))
    | 2,_,hdep,_=>
     have g1:a.eval (.tmp 16)=.string r.name:=got 1 (by omega) (hdep _ rfl ⟨1,.data⟩ (by simp) rfl);refine opIn_call rfl rfl (by intro c h;cases h) (run_call 203 _ _ rfl _ func203 (by kernel_rfl) (by kernel_rfl) [.string r.name] (by simp [g1])) (clone203_calls r.name (by rw [hrn];exact hnl)) ?_;rintro e u' ⟨rfl,k⟩;exact ⟨_,rfl,.inl (put k (by omega) rfl)⟩
    | 3,_,hdep,_=>
     have c:=(e1.keeps keep (by simp)).cell 0;exact cQD rfl rfl (by intro c h;cases h) (ld201 rfl t1 c) (.inl (put (aQA.refl _ _) (by omega) rfl))
    | 4,_,hdep,_=>exact cQD rfl rfl (by intro c h;cases h) (run_move rfl t5) (.inl (put (aQA.refl _ _) (by omega) rfl))
    | 5,_,hdep,_=>
     have g1:a.eval (.tmp 18)=.pointer (some ⟨B,0,none⟩):=got 3 (by omega) (hdep _ rfl ⟨3,.data⟩ (by simp) rfl);have g2:a.eval (.tmp 19)=.int .i64 (pre.length:Int):=got 4 (by omega) (hdep _ rfl ⟨4,.data⟩ (by simp) rfl);refine opIn_call rfl rfl (by intro c h;cases h) (run_call 204 _ _ rfl _ func204 (by kernel_rfl) (by kernel_rfl) [.pointer (some ⟨B,0,none⟩),.int .i64 (pre.length:Int)] (by simp [g1,g2])) (Hsz.out u keep) ?_;rintro e u' ⟨⟨sv,rfl,hsv⟩,k⟩;refine ⟨_,rfl,.inl (put k (by omega) ?_)⟩;show u'.ownsRow W.heap.size 3 1 sv r.sizes.length (bQI r.sizes);rw [hrz,List.length_map];exact sQA hsv keep.size
    | 6,_,hdep,_=>
     have c:=(e3.keeps keep (by simp)).cell 0;exact cQD rfl rfl (by intro c h;cases h) (ld40 rfl t3 c) (.inl (put (aQA.refl _ _) (by omega) rfl))
    | 7,_,hdep,_=>exact cQD rfl rfl (by intro c h;cases h) (run_move rfl t5) (.inl (put (aQA.refl _ _) (by omega) rfl))
    | 8,_,hdep,_=>
     have g1:a.eval (.tmp 21)=.slice (some ⟨w.heap.size+1,0,none⟩) m.rels.length m.rels.length:=got 6 (by omega) (hdep _ rfl ⟨6,.data⟩ (by simp) rfl);have g2:a.eval (.tmp 22)=.int .i64 (pre.length:Int):=got 7 (by omega) (hdep _ rfl ⟨7,.data⟩ (by simp) rfl);have hpI:(pre.length:Int)<m.rels.length:=(by omega);exact cQD rfl rfl (by intro c h;cases h) (ix40 rfl g1 g2 hpI) (.inl (put (aQA.refl _ _) (by omega) rfl))
    | 9,_,hdep,_=>
     have g1:a.eval (.tmp 23)=.pointer (some ⟨w.heap.size+1,pre.length,none⟩):=got 8 (by omega) (hdep _ rfl ⟨8,.data⟩ (by simp) rfl);have c:u.cell? ⟨w.heap.size+1,pre.length,none⟩=some (.int .i64 (r.layer:Int)):=by rw [(eL.keeps keep (by simp)).cell,hrl];exact zQG (by omega)
     exact cQD rfl rfl (by intro c h;cases h) (ld3 rfl g1 c) (.inl (put (aQA.refl _ _) (by omega) rfl))
    | 10,_,hdep,_=>
     have g1:a.eval (.tmp 17)=.string r.name:=got 2 (by omega) (hdep _ rfl ⟨2,.data⟩ (by simp) rfl);have g2:u.ownsRow W.heap.size 3 1 (a.eval (.tmp 20)) r.sizes.length (bQI r.sizes):=got 5 (by omega) (hdep _ rfl ⟨5,.data⟩ (by simp) rfl);have g3:a.eval (.tmp 24)=.int .i64 (r.layer:Int):=got 9 (by omega) (hdep _ rfl ⟨9,.data⟩ (by simp) rfl);obtain ⟨sa,sc,hsv⟩:=fQA g2;rw [hsv] at g2;exact cQD rfl rfl (by intro c h;cases h) (bd144 rfl g1 hsv g3) (.inl (put (aQA.refl _ _) (by omega) ⟨_,rfl,g2⟩))
    | 11,_,hdep,_=>
     obtain ⟨sv,g1,g2⟩:∃ sv,a.eval (.tmp 25)=.agg #[.string r.name,sv,.int .i64 (r.layer:Int)]∧u.ownsRow W.heap.size 3 1 sv r.sizes.length (bQI r.sizes):=got 10 (by omega) (hdep _ rfl ⟨10,.data⟩ (by simp) rfl);obtain ⟨sa,sc,hsv⟩:=fQA g2;subst hsv;have kA:=aQA.alloc [] u (.cells #[.string r.name,.slice sa r.sizes.length sc,.int .i64 (r.layer:Int)] 144);exact cQD rfl rfl (by intro c h;cases h) (bs123 rfl g1) (.inl (put kA (by omega) ⟨_,u.heap.size,rfl,cQA.new u _ 144,keep.size,bQA g2 kA (by simp)⟩))
    | 12,_,hdep,_=>
     have g0:a.eval (.tmp 15)=v:=got 0 (by omega) (hdep _ rfl ⟨0,.data⟩ (by simp) rfl);obtain ⟨sv,g,g1,g2,g3,g4⟩:∃ sv g,a.eval (.tmp 26)=.slice (some ⟨g,0,none⟩) 1 1∧cQA u g #[.string r.name,sv,.int .i64 (r.layer:Int)]∧W.heap.size≤g∧u.ownsRow W.heap.size 3 1 sv r.sizes.length (bQI r.sizes):=got 11 (by omega) (hdep _ rfl ⟨11,.data⟩ (by simp) rfl);have hzu:=keep.size
     obtain ⟨nv, u', hrun, hown', hgrow, hat⟩ := run_append (o := ⟨some 27, .call { callee := .builtin .append, args := #[.tmp 15, .tmp 26], argTypes := #[123, 123] }, 123, "meaning.go:122", #[⟨0, .data⟩, ⟨11, .data⟩, ⟨5, .chain⟩], none⟩) (a := a) (w := u) (base := W5.heap.size) (n := pre.length) (news := [.string r.name, sv, .int .i64 (r.layer : Int)]) rfl g0 g1 underlying123 hi0 hz0 hz1 hz2 rfl (by decide) (bQA Hown.out keep (by simp)) (by simp) (fun j x hx => by
      rw [Addr.add_lit,Nat.zero_add,g2.cell];match j with
      | 0=>simpa using hx
      | 1=>simpa using hx
      | 2=>simpa using hx
      | j+3=>simp at hx) (by
      obtain ⟨sa,sc,hsv⟩:=fQA g4;subst hsv
      simp [Value.oneCell']) (by unfold maxLen;omega) (by omega) (by omega)
     refine cQD rfl rfl (by intro c h;cases h) hrun (.inr (.inl ⟨?_,?_,?_,nv,?_,?_⟩))
     ·rw [Array.getD_eq_getD_getElem?,Array.getElem?_setIfInBounds,if_pos rfl,if_pos (by rw [hF.room];omega)];rfl
     ·rw [qQF (by omega)];exact hF.more.2
     ·exact (put_eval (d:=27) (j:=4) (by omega)).trans t4
     ·exact mQG (by rw [hF.size];show 27<29;omega)
     ·have hvl2:∀ j∈ownL v,W5.heap.size≤j∧j<W.heap.size:=fun j hj=>jQC Hown.out j hj;have hsvl:∀ j∈ownL sv,W.heap.size≤j∧j<u.heap.size:=fun j hj=>jQC g4 j hj;have k6:=grownBy_keeps' hgrow (ownL v) (fun r e=>.inl (by simp [ownL,e]));have htk:(lQE m vals).take (pre.length+1)=(lQE m vals).take pre.length++[r]:=by rw [List.take_add_one,hrm];rfl
      have hr1:=(Hrv.out.keeps keep (by simp)).snoc (sQA g4 hzW) (fun j hj q=>by have:=hvl2 j q;have:=hsvl j hj;omega);have hY:∀ j∈ownL nv++ownL v,j∈ownL v∨u.heap.size≤j:=fun j hj=>by
       rcases List.mem_append.1 hj with q | q
       ·rcases hat with p | p
        ·left;simp only [ownL] at q ⊢;rw [←p];exact q
        ·right;simp only [ownL] at q;rw [p] at q;simp at q;omega
       ·exact .inl q
      refine ⟨v,vs++[.string r.name,sv,.int .i64 (r.layer:Int)],(hc4.keeps keep (by simp)).keeps k6 (fun q=>by have:=(hvl2 _ q).1;omega),hown',?_,(kW.trans (keep.mono (by simp))).trans_new k6 (fun j hj=>.inr (hvl2 j hj).1),(keep.grows (by simp)).trans (k6.growsRow (fun j hj=>.inr ?_)),fun j hj=>?_⟩
      ·rw [htk];exact ((hr1.apart hY).keeps k6 (fun j hj=>.inl (List.mem_append_right _ hj))).apart (fun j hj=>.inl (List.mem_append_left _ hj))
      ·obtain ⟨b1,cs,t,b2⟩:=hQA (bQA Hown.out keep (by simp)) j (by simpa [ownL] using hj);exact ⟨b1,cs,t,_,b2⟩
      ·have:=(jQC hown' j hj).1;omega
    | 13,_,hdep,_=>
     have:=hdep _ rfl ⟨12,.data⟩ (by simp) rfl;rw [hF.more.1] at this;cases this
   ·have l0:=hcl 12 h12 _ rfl ⟨0,.data⟩ (by simp) rfl;have l11:=hcl 12 h12 _ rfl ⟨11,.data⟩ (by simp) rfl;have l10:=hcl 11 l11 _ rfl ⟨10,.data⟩ (by simp) rfl;have l2:=hcl 10 l10 _ rfl ⟨2,.data⟩ (by simp) rfl;have l5:=hcl 10 l10 _ rfl ⟨5,.data⟩ (by simp) rfl;have l9:=hcl 10 l10 _ rfl ⟨9,.data⟩ (by simp) rfl;have l8:=hcl 9 l9 _ rfl ⟨8,.data⟩ (by simp) rfl;have l6:=hcl 8 l8 _ rfl ⟨6,.data⟩ (by simp) rfl;have l7:=hcl 8 l8 _ rfl ⟨7,.data⟩ (by simp) rfl;have l3:=hcl 5 l5 _ rfl ⟨3,.data⟩ (by simp) rfl;have l4:=hcl 5 l5 _ rfl ⟨4,.data⟩ (by simp) rfl;have l1:=hcl 2 l2 _ rfl ⟨1,.data⟩ (by simp) rfl;match i,hi14,hin with
    | 0,_,q=>rw [l0] at q;cases q
    | 1,_,q=>rw [l1] at q;cases q
    | 2,_,q=>rw [l2] at q;cases q
    | 3,_,q=>rw [l3] at q;cases q
    | 4,_,q=>rw [l4] at q;cases q
    | 5,_,q=>rw [l5] at q;cases q
    | 6,_,q=>rw [l6] at q;cases q
    | 7,_,q=>rw [l7] at q;cases q
    | 8,_,q=>rw [l8] at q;cases q
    | 9,_,q=>rw [l9] at q;cases q
    | 10,_,q=>rw [l10] at q;cases q
    | 11,_,q=>rw [l11] at q;cases q
    | 12,_,q=>rw [h12] at q;cases q
    | 13,_,_=>
     obtain ⟨v0,vs0,hb4,hown0,hrv0,k50,hg0,hne0⟩:=hD;obtain ⟨na,nc,hnv2⟩:=fQA hown0;subst hnv2;have c:=hb4.cell 0;have f:=hb4.frozen 0;have ks:=aQA.setCell u ⟨w1.heap.size+1,0,none⟩ (.slice na (pre.length+1) nc);refine opIn_skip rfl rfl (by intro c h;cases h) (st123 rfl hp4 hnv c f) (.inr (.inr ⟨?_,⟨k50.trans ks,.slice na (pre.length+1) nc,vs0,hb4.setCell 0 _,?_,?_⟩,hg0.trans (ks.grows (by simp))⟩))
     ·rw [Array.getD_eq_getD_getElem?,Array.getElem?_setIfInBounds,if_pos rfl,if_pos (by rw [hlz];show 13<14;omega)];rfl
     ·rw [List.length_append,List.length_singleton];exact bQA hown0 ks (fun j hj q=>hne0 j (by simp [ownL,hj]) (by simpa using q))
     ·rw [List.length_append,List.length_singleton];exact hrv0.keeps ks (fun j hj=>.inr (.inl (by have e:j=w1.heap.size+1:=(by simpa using hj);omega)))
   ·have all:∀ k,k<13→listed.getD k false=true:=fun k hk=>hcl 13 h13 _ rfl ⟨k,.phase⟩ (by
     match k,hk with
     | 0,_=>simp
     | 1,_=>simp
     | 2,_=>simp
     | 3,_=>simp
     | 4,_=>simp
     | 5,_=>simp
     | 6,_=>simp
     | 7,_=>simp
     | 8,_=>simp
     | 9,_=>simp
     | 10,_=>simp
     | 11,_=>simp
     | 12,_=>simp) rfl
    exfalso;have hi14':i<14:=hi14;rcases Nat.lt_or_ge i 13 with q | q
    ·rw [all i q] at hin;cases hin
    ·have e:i=13:=(by omega);rw [e,h13] at hin;cases hin
  ·intro listed a u hS hall;have h12:=hall 12 (show 12<14 by omega);have h13:=hall 13 (show 13<14 by omega);rcases hS with hF | ⟨_,h,_⟩ | ⟨_,h1,h2⟩
   ·rw [hF.more.1] at h12;cases h12
   ·rw [h] at h13;cases h13
   ·exact ⟨by rw [←z5];exact h1,by rw [←z5];exact h2⟩
 case done=>
  rintro xs W hG ⟨kW,v,vs,hc4,hown,hrv⟩ hk hlt hD;have hG':xs.length=m.rels.length:=by have:xs.length=(m.rels.map Prod.fst).length:=hG;rw [List.length_map] at this;exact this
  rw [hG'] at hown hrv;rw [List.take_of_length_le (by rw [mQJ];exact Nat.le_refl _)] at hrv;have c0:=hc4.cell 0;simp at c0;have Hown:=hide hown;have Hrv:=hide hrv;have HLI:=hide hLI;have HLs:=hide hLs;clear hown hrv hit;gi_wp2_with fail
  refine ⟨by simp,.inl ⟨_,_,rfl,run_takeDeferred hD,?_⟩⟩;refine ⟨_,results_tmp rfl _ _ _,⟨vals,v,vs,HLI.out,HLs.out,rfl,?_,?_⟩,?_⟩
  ·refine sQA (bQA Hown.out (aQA.putObj W W5.heap.size _) ?_) (by omega);intro j hj x;have e:j=W5.heap.size:=(by simpa using x);obtain ⟨b1,cs,t,b2⟩:=hQA Hown.out j hj;rw [e,hD] at b2;cases b2
  ·exact Hrv.out.noCells (aQA.putObj W W5.heap.size _) (by rw [hD];intro _ _ _ e;cases e) (by omega)
  ·refine ((Hkw.out.trans_new hk ?_).trans_new (aQA.putObj W W5.heap.size _) ?_)
   ·intro j hj;have e:j=w1.heap.size+1:=(by simpa using hj);exact .inr (by omega)
   ·intro j hj;have e:j=W5.heap.size:=(by simpa using hj);exact .inr (by omega)
theorem rels_calls {w:World} {mb B:Nat} {m:Mean} (hm:jQB w mb B m) (hok:mQC m) (hnc:∀ c∈m.clauses,hQG m.rels.length (sQC m.clauses) c=false) (hnm:∀ r∈m.rels,r.1.size≤1000000):Calls prog 138 #[.pointer (some ⟨B,0,none⟩)] w fun e w'=>(∃ vals v vs,LayI m.clauses m.rels.length vals∧rQE layG m.clauses vals∧e=.returned v∧w'.ownsRow w.heap.size 144 3 v m.rels.length vs∧nQE w' w.heap.size (ownL v) (lQE m vals) vs)∧aQA [] w w':=
 callsIn_wide.1 (rels_in 0 hm hok hnc hnm)
end
section
open Go.RowKit
theorem shr_and {a p:Nat}:((a >>> p) &&& 1:Nat)=if a.testBit p then 1 else 0:=by
 rw [Nat.and_one_is_mod,Nat.testBit_eq_decide_div_mod_eq,Nat.shiftRight_eq_div_pow];by_cases h:a / 2 ^ p % 2=1
 ·simp [h]
 ·simp only [h,decide_false,Bool.false_eq_true,if_false];omega
theorem shr_val (a p:Nat):(a:Int) / 2 ^ p=((a >>> p:Nat):Int):=by
 rw [Nat.shiftRight_eq_div_pow];simp
set_option maxHeartbeats 8000000 in
theorem circles_calls {w:World} {mb B:Nat} {m:Mean} (hm:jQB w mb B m) (hok:mQC m):Calls prog 137 #[.pointer (some ⟨B,0,none⟩)] w fun e w'=>FirstTo 13 (uQE (hQG m.rels.length (sQC m.clauses)) m.clauses) e∧aQA [] w w':=by
 obtain ⟨a,cc,la,lc,hBl,hpos,hcl⟩:=pQI hm;have hh:=hide (hanging_calls hm hok);have hn6:=hok.rels;have hl52:=hok.clauses;have Hl4:=hide hok.lits;have Hrl:=hide hok.inR;have Hcl:=hide (fun (W:World) (k:aQA [] w W)=>hcl k);have Hpos:=hide hpos;have hgu:=hide (fun (w:World) (l:Int)=>fQE (w:=w) 13 l);generalize hR:uQE (hQG m.rels.length (sQC m.clauses)) m.clauses=R;have HR:=hide hR;clear hR hcl hpos hm hok;go_enter func137,ntmps137
 go_wp2_with fail
 refine hh.out.mono ?_;rintro e w1 ⟨⟨vals,rfl,hg,hvl,h64,hbit⟩,k1⟩;have b6:=(Hcl.out w1 k1).1;have hgl:=hg.lt;have Hg:=hide hg;have H64:=hide h64;have Hbit:=hide hbit;clear hh hg h64 hbit;generalize hnn:m.rels.length=n at *;go_wp2_with fail
 go_loopw [14] (fun x wr=>∃ i:Nat,x=.int .i64 i∧i≤m.clauses.length∧aQA [] w1 wr∧uQE (hQG n (sQC m.clauses)) (m.clauses.drop i)=R) (fun x _=>m.clauses.length - (intOf x).toNat)
 case atStart=>exact ⟨0,rfl,by omega,aQA.refl [] w1,by rw [List.drop_zero];exact HR.out⟩
 case round=>
  obtain ⟨i,rfl,hil,kr,hres⟩:=hrel;clear b6 HR;have kw:=k1.trans kr;by_cases hlt:i<m.clauses.length
  ·obtain ⟨c,hc⟩:∃ c,m.clauses[i]?=some c:=⟨_,List.getElem?_eq_getElem hlt⟩;have hdi:m.clauses.drop i=c :: m.clauses.drop (i+1):=by
    rw [List.drop_eq_getElem_cons hlt];congr 1
    rw [List.getElem?_eq_getElem hlt] at hc;exact Option.some.inj hc
   rw [hdi,uQE] at hres;have hcm:=List.mem_of_getElem? hc;have hl4:=Hl4.out c hcm;obtain ⟨g,g2,hg,hgl2,hg2,hg2l⟩:=Hpos.out c hcm;subst hg;subst hg2;obtain ⟨_,b7,hlines,hcells⟩:=Hcl.out wr kw;obtain ⟨ha,hc',va,vc,ls,c0,c1,c2,hrow,hlrow,hlits⟩:=hcells i g c hc rfl;have hiI:(i:Int)<m.clauses.length:=(by omega);have hsz:=kw.size;have kK:=aQA.alloc [] wr (.cells #[.int .i64 (c.head.rel:Int),.slice ha c.head.terms.length hc',.slice va c.lits.length vc] 154);have hK:=cQA.new wr #[.int .i64 (c.head.rel:Int),.slice ha c.head.terms.length hc',.slice va c.lits.length vc] 154;have e2:=hK.cell 2;have HK:=hide hK;have Hc:=hide hc;have Hlr:=hide hlrow;have Hlits:=hide hlits;have Hrr:=hide (Hrl.out c hcm);have kw1:=kr.trans kK;have hcbl:=hK.lt;clear hdi hrow hlines hcells hK hc b7 hlrow hlits hcm;generalize hcbn:wr.heap.size=cb at *;go_wp2_with fail
   go_loopw [22] (fun x ws=>∃ j:Nat,x=.int .i64 j∧j≤c.lits.length∧aQA [] w1 ws∧cQA ws cb #[.int .i64 (c.head.rel:Int),.slice ha c.head.terms.length hc',.slice va c.lits.length vc]∧(if (c.lits.drop j).any (fun l=>l.2 && hangB n (sQC m.clauses) l.1.rel c.head.rel) then some c.line else uQE (hQG n (sQC m.clauses)) (m.clauses.drop (i+1)))=R) (fun x _=>c.lits.length - (intOf x).toNat)
   case atStart=>exact ⟨0,rfl,by omega,kw1,HK.out,by rw [List.drop_zero];exact hres⟩
   case round=>
    obtain ⟨j,rfl,hjl,ks,hcb,hmk⟩:=hrel;clear e2 HK kw1 kK;have ksw:=k1.trans ks;have Hcb:=hide hcb;have hcbl2:=hcb.lt;clear hcb;by_cases hjlt:j<c.lits.length
    ·obtain ⟨l,hl⟩:∃ l,c.lits[j]?=some l:=⟨_,List.getElem?_eq_getElem hjlt⟩;have hdj:c.lits.drop j=l :: c.lits.drop (j+1):=by
      rw [List.drop_eq_getElem_cons hjlt];congr 1
      rw [List.getElem?_eq_getElem hjlt] at hl;exact Option.some.inj hl
     rw [hdj,List.any_cons] at hmk;obtain ⟨v,hv1,hv2⟩:=Hlits.out.at hl;obtain ⟨v1,v2,hvv⟩:=fQA hv2;subst hvv;have hcr:=bQA Hlr.out ksw (by simp);obtain ⟨gt,hgt⟩:=aQC hcr (by omega);subst hgt;have d0:wr.cell? ⟨gt,j * 3,none⟩=some (.int .i64 (l.1.rel:Int)):=mQA hcr (by have:=hv1 0 (by omega);rw [Nat.add_zero] at this;rw [this];rfl);have d1:wr.cell? ⟨gt,j * 3+1,none⟩=some (.slice v1 l.1.terms.length v2):=mQA hcr (by rw [hv1 1 (by omega)];rfl);have d2:wr.cell? ⟨gt,j * 3+2,none⟩=some (.bool l.2):=mQA hcr (by rw [hv1 2 (by omega)];rfl);have hgtl:gt<wr.heap.size:=(qQA hcr gt rfl).2;have hjI:(j:Int)<c.lits.length:=(by omega);have kL:=aQA.alloc [] wr (.cells #[.int .i64 (l.1.rel:Int),.slice v1 l.1.terms.length v2,.bool l.2] 279);have hLc:=cQA.new wr #[.int .i64 (l.1.rel:Int),.slice v1 l.1.terms.length v2,.bool l.2] 279;have hlm:=List.mem_of_getElem? hl;have hlr:l.1.rel<n:=Hrr.out.2 l hlm;have hhr:c.head.rel<n:=Hrr.out.1;have hbit:=Hbit.out l.1.rel c.head.rel hlr;have h64:=H64.out l.1.rel;have hcb4:=Hcb.out.keeps kL (by simp);have hg4:=Hg.out.keeps (ks.trans kL) (by simp);have f0:=hcb4.cell 0;have q0:(wr.alloc (.cells #[.int .i64 (l.1.rel:Int),.slice v1 l.1.terms.length v2,.bool l.2] 279)).cell? ⟨w.heap.size,l.1.rel,none⟩=some (.int .i64 ((vals.getD l.1.rel 0:Nat):Int)):=by rw [hg4.cell];exact zQG (by omega)
     have l0:=hLc.cell 0;have l2:=hLc.cell 2;have kall:=ks.trans kL;have HC4:=hide (fun (W:World) (k:aQA [] (wr.alloc (.cells #[.int .i64 (l.1.rel:Int),.slice v1 l.1.terms.length v2,.bool l.2] 279)) W)=>hcb4.keeps k (by simp));generalize vals.getD l.1.rel 0=V at *;have hshr:=shr_val V c.head.rel;have hand:=and_val (a:=V >>> c.head.rel) (b:=1) (by rw [Nat.shiftRight_eq_div_pow];have:=Nat.div_le_self V (2 ^ c.head.rel);omega) (by omega);rw [shr_and,hbit] at hand;have hhI:(c.head.rel:Int)<n:=(by omega);have hlI:(l.1.rel:Int)<n:=(by omega);generalize hangB n (sQC m.clauses) l.1.rel c.head.rel=hb at *;clear hdj hl hv1 hv2 hcr hLc hcb4 hg4 hbit;generalize hSR:V >>> c.head.rel=SR at *;cases hl2:l.2 with
     | false=>
      rw [hl2] at hmk d2 kL l0 l2 f0 q0 kall HC4;rw [Bool.false_and,Bool.false_or] at hmk;have Hmk:=hide hmk;clear hmk hl2;go_wp2_with fail
      go_quiet (fail)
      go_wp2_with fail
      go_roundw
      ·exact ⟨j+1,by simp,by omega,kall.trans (aQA.drewN _ _ _),HC4.out _ (aQA.drewN _ _ _),Hmk.out⟩
      ·simp only [intOf];omega
     | true=>
      rw [hl2] at hmk d2 kL l0 l2 f0 q0 kall HC4;rw [Bool.true_and] at hmk;cases hb with
      | false=>
       rw [Bool.false_or] at hmk;have Hmk:=hide hmk;have hand2:bits .and .i64 (SR:Int) 1=0:=hand;clear hand;clear hmk hl2;go_wp2_with fail
       go_quiet (fail)
       go_wp2_with fail
       go_roundw
       ·exact ⟨j+1,by simp,by omega,kall.trans (aQA.drewN _ _ _),HC4.out _ (aQA.drewN _ _ _),Hmk.out⟩
       ·simp only [intOf];omega
      | true=>
       rw [Bool.true_or,if_pos rfl] at hmk;have Hmk:=hide hmk;have hand2:bits .and .i64 (SR:Int) 1=1:=hand;clear hand;have kd:=((k1.trans kall).trans (aQA.drewN [] _ 1));obtain ⟨_,b7,hlines,_⟩:=Hcl.out _ (k1.trans kall);have hl7:=hlines i g2 c Hc.out rfl;clear hmk hl2 hlines;go_wp2_with fail
       go_quiet (fail)
       go_wp2_with fail
       refine (hgu.out _ _).mono ?_;rintro e w3 ⟨rfl,rfl⟩;exact ⟨rfl,by rw [←Hmk.out];rfl,(k1.trans kall).trans (aQA.drewN _ _ _)⟩
    ·have hjI:¬ (j:Int)<c.lits.length:=(by omega);have hdz:c.lits.drop j=[]:=List.drop_eq_nil_of_le (by omega);rw [hdz] at hmk;have Hmk:Hid (uQE (hQG n (sQC m.clauses)) (m.clauses.drop (i+1))=R):=hide hmk;clear hmk hdz;go_wp2_with fail
     go_roundw
     ·exact ⟨i+1,by simp,by omega,ks,Hmk.out⟩
     ·simp only [intOf];omega
  ·have hiI:¬ (i:Int)<m.clauses.length:=(by omega);have hdz:m.clauses.drop i=[]:=List.drop_eq_nil_of_le (by omega);rw [hdz,uQE] at hres;have Hres:=hide hres;clear hres hdz;go_wp2_with fail
   go_end0
   exact ⟨by rw [←Hres.out];rfl,kw⟩
end
end Go.Proofs.YtgjomknpjigkhaaGreatDoor
