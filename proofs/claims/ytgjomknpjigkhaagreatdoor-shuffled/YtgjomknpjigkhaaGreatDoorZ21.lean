import Derived.Test.YtgjomknpjigkhaaGreatDoorZ20
import Derived.Test.YtgjomknpjigkhaaGreatDoorZ03
import Derived.Shelf.LaysM
import Derived.Shelf.Strconv.Clone
namespace Go.Proofs.YtgjomknpjigkhaaGreatDoor
open Go.Proofs.Tryz
set_option maxRecDepth 100000
set_option maxHeartbeats 4000000
section
open Go.RowKit
theorem Kt (w:World) (n:Nat) (hn:n≤1000):(Instr.makeSlice 40 (.int .i64 (n:Int)) (.int .i64 (n:Int))).run prog w=.ok (.slice (some ⟨w.heap.size,0,none⟩) n n) (w.alloc (.cells (madeCells #[.int .i64 0] n) 3)):=by
 obtain ⟨i0,hi0,hz0,hz1,hz2⟩:=info_parts Mu;have:=run_make (P:=prog) w 40 3 i0 (.int .i64 0) underlying40 hi0 hz0 .i64 .i64 n n (by omega) (by omega) (by rw [hz2];omega) (by omega);rw [this,hz1];simp [Value.cells]
theorem Qj (n:Nat):madeCells #[.int .i64 0] n=Gd (List.replicate n 0):=by
 apply Array.ext';rw [toList_madeCells_one (.int .i64 0) n];simp [Gd]
def initV (i n:Nat):List Nat:=(List.range n).map fun j=>if j<i then 2 ^ j else 0
theorem WX (n:Nat):initV 0 n=List.replicate n 0:=by
 apply Bj;intro j;simp [initV,List.getElem?_replicate];split <;> simp_all
theorem Ki (i n:Nat):(initV i n).length=n:=by simp [initV]
theorem ZL {i n j:Nat} (h:j<n):(initV i n).getD j 0=if j<i then 2 ^ j else 0:=by
 simp [initV,List.getD_eq_getElem?_getD,h]
theorem ZK {i n:Nat} (h:i<n):(initV i n).set i (2 ^ i)=initV (i+1) n:=by
 apply Bj;intro j;rw [Aw];by_cases e:i=j
 ·subst e;rw [if_pos rfl];simp [h,initV]
 ·rw [if_neg e];by_cases hj:j<n
  ·simp only [initV,AW,CS hj,A5];congr 1
   by_cases h1:j<i
   ·rw [if_pos h1,if_pos (by omega)]
   ·rw [if_neg h1,if_neg (by omega)]
  ·rw [Af (by rw [Ki];omega),Af (by rw [Ki];omega)]
theorem WZ {E:EV} {n:Nat}:Q5 E n (initV n n):=by
 refine ⟨Ki _ _,fun i hi=>?_⟩;rw [ZL hi,if_pos hi];refine ⟨C5 (by omega) hi,Nat.testBit_two_pow_self,fun j hj=>?_⟩;rw [Nat.testBit_two_pow] at hj;have e:i=j:=by simpa using hj
 subst e;exact .here _
theorem Ot {w:World} {mb B:Nat} {m:Mean} (h:B5 w mb B m) {W:World} (k:AA [] w W):Calls prog 254 #[.pointer (some ⟨B,3,none⟩)] W fun e w'=>e=.returned (.int .i64 (m.rels.length:Nat))∧w' = W:=by
 obtain ⟨tD,mD,sz,tN,mN,co,cl,ln,cvs,kvs,hV⟩:=h;obtain ⟨aD,cD,hD⟩:=Al hV.names.row;have:=FC (w:=W) (B:=B) (o:=3) (ns:=m.rels.map Prod.fst) (a:=aD) (c:=cD) (by rw [(hV.cells.keeps k).cell,←hD];rfl);rw [AY] at this;exact this
theorem P8 {w:World} {mb B:Nat} {m:Mean} (hm:B5 w mb B m) (hok:DA m):Calls prog 201 #[.pointer (some ⟨B,0,none⟩)] w fun e w'=>(∃ vals,e=.returned (.slice (some ⟨w.heap.size,0,none⟩) m.rels.length m.rels.length)∧AK w' w.heap.size (Gd vals)∧vals.length=m.rels.length∧(∀ i,vals.getD i 0<64)∧∀ a b,a<m.rels.length→(vals.getD a 0).testBit b=H8 m.rels.length (Cf m.clauses) a b)∧AA [] w w':=by
 have hlen:=AD (fun (W:World) (k:AA [] w W)=>Ot hm k);have hn6:=hok.rels;have hBl:=JH hm;have H:=jA (cs:=m.clauses) hok.inR;have h64:∀ vals,Q5 (Cf m.clauses) m.rels.length vals→∀ i,vals.getD i 0<64:=fun vals h i=>by
  rcases BP i m.rels.length with q | q
  ·have h1:=(h.2 i q).1;have h2:(2:Nat) ^ m.rels.length≤2 ^ 6:=C6 (by omega) hn6;omega
  ·rw [Ad,Af (by rw [h.1];exact q)];decide
 have hspr:=AD (fun (W:World) (k:AA [] w W) (hS:QG W W w.heap.size (w.heap.size+1) m.rels.length m.rels.length (Q5 (Cf m.clauses) m.rels.length) (initV m.rels.length m.rels.length))=>Nr hm k (AQ _) (by omega) H h64 hok.clauses hok.lits hS);have H64:=AD h64;have Hrel:=AD hok.inR;have hmk:=Kt w m.rels.length (by omega);rw [Qj] at hmk;have kA:=AA.alloc [] w (.cells (Gd (List.replicate m.rels.length 0)) 3);have hg0:=AK.new w (Gd (List.replicate m.rels.length 0)) 3;have kC:=AA.alloc [] (w.alloc (.cells (Gd (List.replicate m.rels.length 0)) 3)) (.cells #[.slice (some ⟨w.heap.size,0,none⟩) m.rels.length m.rels.length] 40);have hC0:=AK.new (w.alloc (.cells (Gd (List.replicate m.rels.length 0)) 3)) #[.slice (some ⟨w.heap.size,0,none⟩) m.rels.length m.rels.length] 40;rw [AX] at hC0;have hg1:=hg0.keeps kC;have Hz:=AD (WX m.rels.length);have Hg1:=AD hg1;have HC0:=AD hC0;have kAC:=kA.trans kC;clear hm hok H h64 hg0 hg1 hC0 kA kC;generalize hnn:m.rels.length=n at *;clear hnn;generalize hO:Obj.cells (Gd (List.replicate n 0)) 3=ob at *;go_in
 go_wp2_with fail
 refine (hlen.out _ (AA.refl [] w)).mono ?_;rintro e w1 ⟨rfl,rfl⟩;go_wp2_with fail
 go_loopw [12] (fun x wr=>∃ i:Nat,x=.int .i64 i∧i≤n∧AK wr w1.heap.size (Gd (initV i n))∧AK wr (w1.heap.size+1) #[.slice (some ⟨w1.heap.size,0,none⟩) n n]∧AA [] w1 wr) (fun x _=>n - (intOf x).toNat)
 case atStart=>exact ⟨0,rfl,by omega,by rw [Hz.out];exact Hg1.out,HC0.out,kAC⟩
 case round=>
  clear hmk hlen kAC Hg1 HC0;obtain ⟨i,rfl,hil,hg,hC,kr⟩:=hrel;have c0:=hC.cell 0;have hCl:=hC.lt;by_cases hlt:i<n
  ·have hiI:(i:Int)<n:=(by omega);have g0:wr.cell? ⟨w1.heap.size,i,none⟩=some (.int .i64 (((initV i n).getD i 0:Nat):Int)):=by rw [hg.cell];exact Fu (by rw [Ki];exact hlt)
   have f0:=hg.frozen i;have hsh:=XX (p:=i) (by omega);have hgN:=hg.setCell i (.int .i64 ((2 ^ i:Nat):Int));rw [T9,ZK hlt] at hgN;have hCN:=hC.keeps (AA.setCell wr ⟨w1.heap.size,i,none⟩ (.int .i64 ((2 ^ i:Nat):Int)));have kN:AA [] w1 (wr.setCell ⟨w1.heap.size,i,none⟩ (.int .i64 ((2 ^ i:Nat):Int))):=kr.trans_new (AA.setCell wr ⟨w1.heap.size,i,none⟩ _) (by simp);generalize hP2:(2:Nat) ^ i=P2 at *;have Hg:=AD (hgN.keeps (AA.drew [] _));have HC:=AD (hCN.keeps (AA.drew [] _));have Hk:=AD (kN.trans (AA.drew [] _));clear hgN hCN kN hg hC;go_wp2_with fail
   go_region_law (fail)
   all_goals
    go_wp2_with fail
    go_roundw
    ·exact ⟨i+1,by simp,by omega,Hg.out,HC.out,Hk.out⟩
    ·simp only [intOf];omega
  ·have hiI:¬ (i:Int)<n:=(by omega);have e:i=n:=(by omega);subst e;have hS:QG wr wr w1.heap.size (w1.heap.size+1) i i (Q5 (Cf m.clauses) i) (initV i i):=⟨hg,hC,WZ,AA.refl _ _⟩;have hcall:=AD (hspr.out wr kr hS);clear hspr hS hg;go_wp2_with fail
   refine hcall.out.mono ?_;rintro e w2 ⟨rfl,vals,hS2,hst⟩;have c2:=hS2.cap.cell 0;have k2:AA [] w1 w2:=kr.trans_new hS2.keep (by simp);have HS2:=AD hS2;have Hst:=AD hst;clear hS2 hst;go_wp2_with fail
   go_ret
   exact ⟨⟨vals,rfl,HS2.out.row,HS2.out.inv.1,H64.out vals HS2.out.inv,fun a b ha=>ZP Hrel.out HS2.out.inv Hst.out ha⟩,k2⟩
def R9:Go.Shelf.Ren:=⟨fun | 316=>258 | n=>n,fun | 9=>9 | 3=>3 | 4=>4 | 37=>120 | 0=>0 | 127=>208 | 5=>5 | n=>n,fun | n=>n⟩
theorem cK:Go.Proofs.LaysM.n316 prog R9:={
 mixed:=by kernel_rfl
 f316:=func258.trans (congrArg some (by kernel_rfl))
 t0:=underlying0
 a0:=Tryz.isAgg0
 z0:=Tryz.sizeOf0
 v0:=Tryz.zeroValue0
 t3:=underlying3
 a3:=Tryz.isAgg3
 z3:=Tryz.sizeOf3
 v3:=Tryz.zeroValue3
 t4:=underlying4
 a4:=Tryz.isAgg4
 z4:=Tryz.sizeOf4
 v4:=Tryz.zeroValue4
 t9:=underlying9
 a9:=Tryz.isAgg9
 z9:=Tryz.sizeOf9
 v9:=Tryz.zeroValue9
 t37:=underlying120
 a37:=Tryz.isAgg120
 z37:=Tryz.sizeOf120
 v37:=Tryz.zeroValue120
 t127:=underlying208
 a127:=Tryz.isAgg208
 z127:=Tryz.sizeOf208
 v127:=Tryz.zeroValue208
 t5:=underlying5
 a5:=Tryz.isAgg5
 z5:=Tryz.sizeOf5
 v5:=Tryz.zeroValue5
 i0:=by kernel_rfl
 i3:=by kernel_rfl
 i4:=by kernel_rfl
 i5:=by kernel_rfl
 i9:=by kernel_rfl
 i37:=by kernel_rfl
 i127:=by kernel_rfl }
open Go.RowKit in
theorem gA (s:ByteArray) (w:World) (hlim:s.size≤281474976710656) :
  Calls prog 258 #[.string s] w fun e w'=>e=.returned (.string s)∧Go.RowKit.Below w.heap.size w w':=Any.stringslite_Clone cK s w hlim
theorem U4 {w w':World} (h:Go.RowKit.Below w.heap.size w w'):AA [] w w':=⟨h.os,h.tape,h.output,h.size,fun i hi _=>h.block i hi⟩
theorem PJ {w:World} (s:ByteArray) (hs:s.size≤1000000):Calls prog 203 #[.string s] w fun e w'=>e=.returned (.string s)∧AA [] w w':=by
 have hc:=AD (fun (w:World)=>gA s w (by omega));go_in
 go_wp2_with fail
 refine (hc.out _).mono ?_;rintro e w' ⟨rfl,hb⟩;have k:=U4 hb;clear hb;go_wp2_with fail
 go_ret
 exact ⟨rfl,k⟩
theorem SA {w:World} {mb B:Nat} {m:Mean} (hm:B5 w mb B m) (hok:DA m) (hnc:∀ c∈m.clauses,ET m.rels.length (Cf m.clauses) c=false):Calls prog 202 #[.pointer (some ⟨B,0,none⟩)] w fun e w'=>(∃ vals,e=.returned (.slice (some ⟨w.heap.size,0,none⟩) m.rels.length m.rels.length)∧AK w' w.heap.size (Gd vals)∧M6 m.clauses m.rels.length vals∧Dr layG m.clauses vals)∧AA [] w w':=by
 have hlen:=AD (fun (W:World) (k:AA [] w W)=>Ot hm k);have hn6:=hok.rels;have hBl:=JH hm;have H:=mM (cs:=m.clauses) hok.inR hnc;have h64:∀ vals,M6 m.clauses m.rels.length vals→∀ i,vals.getD i 0<64:=fun vals h i=>by
  rcases BP i m.rels.length with q | q
  ·have h1:=h.2.1 i q;have h2:=Sb m.rels.length (H8 m.rels.length (Cf m.clauses) i);unfold E3 at h1;omega
  ·rw [Ad,Af (by rw [h.1];exact q)];decide
 have hspr:=AD (fun (W:World) (k:AA [] w W) (hS:QG W W w.heap.size (w.heap.size+1) m.rels.length m.rels.length (M6 m.clauses m.rels.length) (List.replicate m.rels.length 0))=>Nq hm k (AQ _) (by omega) H h64 hok.clauses hok.lits hS);have Hl0:=AD (ZB (cs:=m.clauses) hok.inR);have hmk:=Kt w m.rels.length (by omega);rw [Qj] at hmk;have kA:=AA.alloc [] w (.cells (Gd (List.replicate m.rels.length 0)) 3);have hg0:=AK.new w (Gd (List.replicate m.rels.length 0)) 3;have kC:=AA.alloc [] (w.alloc (.cells (Gd (List.replicate m.rels.length 0)) 3)) (.cells #[.slice (some ⟨w.heap.size,0,none⟩) m.rels.length m.rels.length] 40);have hC0:=AK.new (w.alloc (.cells (Gd (List.replicate m.rels.length 0)) 3)) #[.slice (some ⟨w.heap.size,0,none⟩) m.rels.length m.rels.length] 40;rw [AX] at hC0;have hg1:=hg0.keeps kC;have c0:=hC0.cell 0;have kAC:=kA.trans kC;have hcall:=AD (hspr.out _ kAC ⟨hg1,hC0,Hl0.out,AA.refl _ _⟩);clear hm hok H h64 hg0 hg1 hC0 kA kC hspr hnc;generalize hnn:m.rels.length=n at *;clear hnn;generalize hO:Obj.cells (Gd (List.replicate n 0)) 3=ob at *;go_in
 go_wp2_with fail
 refine (hlen.out _ (AA.refl [] w)).mono ?_;rintro e w1 ⟨rfl,rfl⟩;go_wp2_with fail
 refine hcall.out.mono ?_;rintro e w2 ⟨rfl,vals,hS2,hst⟩;have c2:=hS2.cap.cell 0;have k2:AA [] w1 w2:=kAC.trans_new hS2.keep (by simp);have HS2:=AD hS2;have Hst:=AD hst;clear hS2 hst;go_wp2_with fail
 go_ret
 exact ⟨⟨vals,rfl,HS2.out.row,HS2.out.inv,Hst.out⟩,k2⟩
theorem Pr {w:World} {mb B:Nat} {m:Mean} (hm:B5 w mb B m) (hok:DA m) {r:Nat} {s:ByteArray} {ds:List Nat} (hrs:m.rels[r]?=some (s,ds)):Calls prog 204 #[.pointer (some ⟨B,0,none⟩),.int .i64 (r:Int)] w fun e w'=>(∃ v,e=.returned v∧w'.ownsRow w.heap.size 3 1 v ds.length (Fh (ds.map m.size)))∧AA [] w w':=by
 obtain ⟨i0,hi0,hz0,hz1,hz2⟩:=info_parts Mu;have hBl:=JH hm;obtain ⟨gc,cc,av,cv,hgl,hdg,hcols⟩:=Ou hm hrs;have hrl:r<m.rels.length:=by
  rcases BP r m.rels.length with h | h
  ·exact h
  ·rw [Af h] at hrs;cases hrs
 have hcl:=hok.cols _ (AE hrs);have hds:=hcl.2;have hl3:ds.length≤3:=hcl.1;have hrI:(r:Int)<m.rels.length:=by omega
 obtain ⟨c5,cr,_⟩:=hcols (AA.refl [] w);have Hcols:=AD (fun (W:World) (k:AA [] w W)=>(hcols k).2.2);have Hdg:=AD hdg;have Hds:=AD hds;have Hsz:=AD (fun (d:Nat) (hd:d<m.doms.length)=>Mm hm hd);have hd4:=hok.doms;clear hm hcols hdg hds hcl hok;go_in
 go_wp2_with fail
 go_loopw [5,16] (fun y x wr=>∃ i:Nat,x=.int .i64 i∧i≤ds.length∧wr.ownsRow w.heap.size 3 1 y i (Fh ((ds.map m.size).take i))∧AA [] w wr∧w.heap.size≤wr.heap.size) (fun _ x _=>ds.length - (intOf x).toNat)
 case atStart=>exact ⟨0,rfl,by omega,World.ownsRow_nil ..,AA.refl [] w,AQ _⟩
 case round=>
  clear c5 cr;obtain ⟨i,rfl,hil,own,kr,hsz⟩:=hrel;obtain ⟨ay,cy,rfl⟩:=Al own;by_cases hlt:i<ds.length
  ·obtain ⟨d,hd⟩:∃ d,ds[i]?=some d:=⟨_,AB hlt⟩;obtain ⟨gd,hgd,hgdl⟩:=Hdg.out d (AE hd);subst hgd;have q0:=Hcols.out wr kr i d gd hd rfl;have hdl:=Hds.out d (AE hd);obtain ⟨gk,ck,hgk,_,hsc⟩:=Hsz.out d hdl;obtain ⟨b2,n2⟩:=hsc kr;have hiI:(i:Int)<ds.length:=(by omega);have hdI:(d:Int)<m.doms.length:=(by omega);have hsr:=kr.size;have kB:=AA.alloc [] wr (.cells #[.int .i64 (m.size d)] 3);have ownB:=AH own kB;have Htake:Hid ((ds.map m.size).take (i+1)=(ds.map m.size).take i++[m.size d]):=AD (by rw [An,AW,hd];rfl);clear hsc hd;go_wp2_with (at_builtin;refine wpList_append_own_at _ rfl _ _ 40 rfl w.heap.size 3 i0 (.int .i64 0) 1 8 underlying40 hi0 hz0 hz1 hz2 rfl (by decide) _ i (Fh ((ds.map m.size).take i)) rfl ownB ⟨wr.heap.size,0,none⟩ 1 1 [.int .i64 (m.size d)] rfl (by simp) OA (by simp [Value.oneCell']) (by unfold maxLen;omega) (by omega) (by rw [AX];omega) ?_)
   intro v' W2 own4 grow4 nil4 at4;have k4:=grownBy_keeps' grow4 (Value.slice ay i cy).ownBlock.toList (fun r e=>.inl (by simp [e]));have kf:AA [] w W2:=(kr.trans kB).trans_new k4 fun j hj=>.inr (As own j (by simpa using hj)).1;have Hown:=AD own4;clear own4 grow4 nil4 at4 ownB own;go_wp2_with fail
   go_roundw
   ·exact ⟨i+1,by simp,by omega,by rw [Htake.out,Fh,Am];exact Hown.out,kf,kf.size⟩
   ·simp only [intOf];omega
  ·have hiI:¬ (i:Int)<ds.length:=(by omega);have e:i=ds.length:=(by omega);subst e;rw [A9 (by rw [AY];omega)] at own;have Hown:=AD own;clear own;go_wp2_with fail
   go_ret
   exact ⟨⟨_,rfl,Hown.out⟩,kr⟩
theorem Zj {w:World} {B:Nat} {a:Option Addr} {n c:Nat} (hc:w.cell? ⟨B,3,none⟩=some (.slice a n c)):Calls prog 76 #[.pointer (some ⟨B,3,none⟩)] w fun e w'=>e=.returned (.func (.func 222) #[] #[.pointer (some ⟨w.heap.size,0,none⟩)])∧w' = w.alloc (.cells #[.slice a n c] 35):=by
 go_in
 go_wp2
 go_ret
 exact ⟨rfl,rfl⟩
def eP (x:Nat×ByteArray):Array Value:=#[.int .i64 (x.1:Int),.string x.2]
def NthOf (ns:List ByteArray) (pre:List (Nat×ByteArray)) (x:Nat×ByteArray):Prop:=x.1=pre.length∧ns[pre.length]?=some x.2
def fO (ns:List ByteArray) (xs:List (Nat×ByteArray)):Prop:=xs.length=ns.length
theorem eZ {w:World} {p g c:Nat} {ns:List ByteArray} {a:Option Addr} (hp0:AK w p #[.slice a ns.length c]) (ha:∀ s∈ns,a=some ⟨g,0,none⟩∧g<w.heap.size) (hg:∀ {W:World},(∀ i,i=g→W.heap[i]?=w.heap[i]?)→∀ (i:Nat) (s:ByteArray),ns[i]?=some s→W.cell? ⟨g,i,none⟩=some (.string s)) (hl:ns.length≤1000000) (T:List Nat) (hT:∀ t∈T,t<w.heap.size∧t≠p∧(ns≠[]→t≠g)) :
  lQ 222 #[.pointer (some ⟨p,0,none⟩)] eP (NthOf ns) (fO ns) T w:=by
 intro n l J W hl' hlW hb hJ hY h0;have hp:=hp0.of_heap (w':=W) (hb.block p hp0.lt);have c0:=hp.cell 0;simp at c0;have HY:=AD hY;have HJ:=AD hJ;have Hg:=AD (fun (W:World) (h:∀ i,i=g→W.heap[i]?=w.heap[i]?)=>hg h);have Ha:=AD ha;have HT:=AD hT;have Hb:=AD hb;clear hY hJ hg ha hT hb;refine callsIn_of_wp func222 rfl trivial ?_ rfl;simp only [ntmps222,Bw,AU,Ao,Nat.reduceAdd,Nat.reduceSub,B0,Bz,CW,Bo,BM,A8];gi_wp2_with fail
 gi_loopw [7] (fun x wr=>∃ (i:Nat) (xs:List (Nat×ByteArray)),x=.int .i64 i∧i=xs.length∧i≤ns.length∧J xs wr∧GY w.heap.size (l :: T) W wr) (fun x _=>ns.length - (intOf x).toNat)
 case atStart=>exact ⟨0,[],rfl,rfl,by omega,h0,(AA.refl [] W).grows (by simp)⟩
 case round=>
  obtain ⟨i,xs,rfl,hix,hil,hJs,hgr⟩:=hrel;clear c0 h0;have Hix:=AD hix;clear hix;by_cases hlt:i<ns.length
  ·obtain ⟨s,hs⟩:∃ s,ns[i]?=some s:=⟨_,AB hlt⟩;obtain ⟨hag,hgl⟩:=Ha.out s (AE hs);subst hag;have hne:ns≠[]:=by intro e;rw [e] at hlt;simp at hlt
   have hcell:=Hg.out wr (fun j hj=>by
    subst hj;refine (hgr.block j (A4 hgl Hb.out.size) (fun q=>?_) (.inl hgl)).trans (Hb.out.block j hgl);rcases AG.1 q with q | q
    ·omega
    ·exact (HT.out j q).2.2 hne rfl) i s hs
   have hiI:(i:Int)<ns.length:=(by omega);obtain ⟨fn,tmps,assign,body,hy,hR⟩:=HY.out xs (i,s) wr hJs ⟨Hix.out,by rw [←Hix.out];exact hs⟩;simp only [eP] at hy;clear hs;gi_wp2_with fail
   refine ⟨fun h=>(nomatch h),?_⟩;refine hR.mono ?_;rintro e W3 ⟨rfl,hJ3,g3⟩;have hg3:GY w.heap.size (l :: T) W W3:=hgr.trans g3;gi_wp2_with fail
   refine ⟨⟨i+1,xs++[(i,s)],by simp,by rw [AJ,Ah,←Hix.out],by omega,hJ3,hg3⟩,?_⟩;simp only [intOf];omega
  ·have hiI:¬ (i:Int)<ns.length:=(by omega);gi_wp2_with fail
   go_end0
   exact ⟨⟨_,rfl⟩,xs,by have:=Hix.out;unfold fO;omega,hJs,hgr⟩
theorem WM {listed:Array Bool} {i j:Nat} (h:(listed.setIfInBounds i true).getD j false=true):j=i∨listed.getD j false=true:=by
 by_cases e:j=i
 ·exact .inl e
 ·right;rw [←h,BA,BA,AZ,if_neg (fun q=>e q.symm)]
theorem Ff {listed:Array Bool} {i j:Nat} (h:j≠i):(listed.setIfInBounds i true).getD j false=listed.getD j false:=by
 rw [BA,BA,AZ,if_neg (fun q=>h q.symm)]
def Q8 (md:Region.Mode) (ops:Array Oper) (listed:Array Bool):Prop:=∀ j,listed.getD j false=true→∀ o,ops[j]?=some o→∀ e∈o.after,Region.binds md e=true→listed.getD e.on false=true
theorem Eh (n j:Nat):(Array.replicate n false).getD j false=false:=by
 rw [BA,Array.getElem?_replicate];split <;> rfl
theorem NS {listed:Array Bool} {i j:Nat} (h:listed.getD j false=true):(listed.setIfInBounds i true).getD j false=true:=by
 by_cases e:j=i
 ·subst e;have hj:j<listed.size:=by
   rcases BP j listed.size with q | q
   ·exact q
   ·simp [Array.getD,Nat.not_lt.2 q] at h
  rw [BA,AZ,if_pos rfl,if_pos hj];rfl
 ·rw [Ff e];exact h
def SU (ops:Array Oper):Bool:=(List.range ops.size).all fun i=>((ops[i]?).map fun o=>o.after.all fun e=>decide (e.on<i)).getD true
theorem Yk {md:Region.Mode} {ops:Array Oper} {listed:Array Bool} (hb:SU ops=true) (hsz:listed.size=ops.size) (h:Region.ready md ops listed=[]):∀ i,i<ops.size→listed.getD i false=true:=by
 intro i;induction i using Nat.strongRecOn with
 | ind i ih=>
  intro hi;have hi':i<listed.size:=by omega
  rcases hv:listed.getD i false with _ | _
  ·exfalso;have hm:i∈Region.ready md ops listed:=by
    simp only [Region.ready,Ai,B9,A1,Dm];refine ⟨hi,?_,?_⟩
    ·simp [Array.getD,hi'] at hv ⊢;exact hv
    ·rw [Cv hi];simp only [A5,BU,Array.all_eq_true_iff_forall_mem,Cu];intro e he;right;unfold SU at hb;rw [List.all_eq_true] at hb;have h2:=hb i (B9.2 hi);rw [Cv hi] at h2;simp only [A5,BU,Array.all_eq_true_iff_forall_mem,decide_eq_true_eq] at h2;have h3:=h2 e he;exact ih e.on h3 (by omega)
   rw [h] at hm;cases hm
  ·rfl
theorem Ic {n:Nat} {P:Program} {ops:Array Oper} {Q:Exit→Act→World→Prop} {F:Fence} {id:Nat} {a:Act} {w:World} {S:Array Bool→Act→World→Prop} (hm:P.follows .mixedOrders=true) (hb:SU ops=true) (h0:S (Array.replicate ops.size false) a w.drew) (hstep:∀ listed a w i,S listed a w→Q8 .any ops listed→listed.size=ops.size→i<ops.size→listed.getD i false=false→(∀ o,ops[i]?=some o→∀ e∈o.after,Region.binds .any e=true→listed.getD e.on false=true)→wpOpIn F n P ops Q i (S (listed.setIfInBounds i true)) a w) (hend:∀ listed a w,S listed a w→(∀ i,i<ops.size→listed.getD i false=true)→Q .normal a w):(Code.region id ops true).wpIn F n P Q a w:=by
 refine Nn (S:=fun listed a w=>S listed a w∧Q8 .any ops listed∧listed.size=ops.size) hm ⟨h0,fun j hj=>(by rw [Eh] at hj;cases hj),Array.size_replicate⟩ (fun listed a w i hS hi=>?_) (fun listed a w hS hr=>hend listed a w hS.1 (Yk hb hS.2.2 hr));obtain ⟨h1,h2,h3⟩:=LL hi;have h2':listed.getD i false=false:=by
  have hi':i<listed.size:=by rw [hS.2.2];exact h1
  simp [Array.getD,hi'] at h2 ⊢;exact h2
 refine wpOpIn_mono (fun a w h=>⟨h,?_,by rw [Array.size_setIfInBounds];exact hS.2.2⟩) (hstep listed a w i hS.1 hS.2.1 hS.2.2 h1 h2' h3);intro j hj o ho e he hb;rcases WM hj with q | q
 ·subst q;exact NS (h3 o ho e he hb)
 ·exact NS (hS.2.1 j q o ho e he hb)
structure fL (base N:Nat) (φ:Nat→Value→World→Prop) (a0:Act) (W:World) (listed:Array Bool) (a:Act) (w:World):Prop where
 size:a.tmps.size=a0.tmps.size
 low:∀ j,j<base→a.eval (.tmp j)=a0.eval (.tmp j)
 dfr:a.defers=a0.defers
 keep:AA [] W w
 got:∀ j,j<N→listed.getD j false=true→φ j (a.eval (.tmp (base+j))) w
 room:listed.size=N+2
 more:listed.getD N false=false∧listed.getD (N+1) false=false
theorem fL.put {base N:Nat} {φ:Nat→Value→World→Prop} {a0:Act} {W:World} {listed:Array Bool} {a:Act} {w w':World} {i:Nat} {v:Value} (h:fL base N φ a0 W listed a w) (hs:∀ j v w w',φ j v w→AA [] w w'→φ j v w') (k:AA [] w w') (hi:i<N) (hb:base+N≤a0.tmps.size) (hv:φ i v w'):fL base N φ a0 W (listed.setIfInBounds i true) (a.put (some (base+i)) v) w':=by
 refine ⟨by rw [To];exact h.size,fun j hj=>by rw [Of (by omega)];exact h.low j hj,by rw [V3];exact h.dfr,h.keep.trans k,fun j hj hl=>?_,by rw [Array.size_setIfInBounds];exact h.room,?_⟩
 ·by_cases e:j=i
  ·subst e;rw [GM (by rw [h.size];omega)];exact hv
  ·rw [Of (by omega)];rw [Ff e] at hl;exact hs _ _ _ _ (h.got j hj hl) k
 ·rw [Ff (by omega),Ff (by omega)];exact h.more
structure HN where
 name:ByteArray
 sizes:List Int
 layer:Nat
def EG (w:World) (base:Nat) (X:List Nat):List HN→List Value→Prop
 | [],vs=>vs=[]
 | r :: rs,vs=>∃ v rest,vs=[.string r.name,v,.int .i64 (r.layer:Int)]++rest∧w.ownsRow base 3 1 v r.sizes.length (Fh r.sizes)∧(∀ j∈Aa v,j∉X)∧EG w base X rs rest
theorem EG.keeps {w w':World} {base:Nat} {X T:List Nat} {rs:List HN} {vs:List Value} (h:EG w base X rs vs) (k:AA T w w') (hT:∀ j∈T,j∈X∨j<base∨w.heap.size≤j:=by simp):EG w' base X rs vs:=by
 induction rs generalizing vs with
 | nil=>exact h
 | cons r rs ih=>
  obtain ⟨v,rest,h1,h2,h3,h4⟩:=h;exact ⟨v,rest,h1,MA h2 h3 k hT,h3,ih h4⟩
theorem EG.apart {w:World} {base:Nat} {X Y:List Nat} {rs:List HN} {vs:List Value} (h:EG w base X rs vs) (hY:∀ j∈Y,j∈X∨w.heap.size≤j):EG w base Y rs vs:=by
 induction rs generalizing vs with
 | nil=>exact h
 | cons r rs ih=>
  obtain ⟨v,rest,h1,h2,h3,h4⟩:=h;exact ⟨v,rest,h1,h2,KN h2 h3 hY,ih h4⟩
theorem EG.snoc {w:World} {base:Nat} {X:List Nat} {rs:List HN} {vs:List Value} (h:EG w base X rs vs) {r:HN} {v:Value} (h2:w.ownsRow base 3 1 v r.sizes.length (Fh r.sizes)) (h3:∀ j∈Aa v,j∉X):EG w base X (rs++[r]) (vs++[.string r.name,v,.int .i64 (r.layer:Int)]):=by
 induction rs generalizing vs with
 | nil=>
  have e:vs=[]:=h;subst e;exact ⟨v,[],rfl,h2,h3,rfl⟩
 | cons x rs ih=>
  obtain ⟨u,rest,k1,k2,k3,k4⟩:=h;exact ⟨u,rest++[.string r.name,v,.int .i64 (r.layer:Int)],by rw [k1];simp,k2,k3,ih k4⟩
theorem iY:(prog.info? 144).map (fun i=>(i.zero,i.size,i.bytes))=some (some (.agg #[.string ⟨#[]⟩,.slice none 0 0,.int .i64 0]),3,48):=by kernel_rfl
def gX (W:World) (B gL:Nat) (n i:Nat) (v:Value) (r:HN):Nat→Value→World→Prop
 | 0,u,_=>u=v
 | 1,u,_=>u=.string r.name
 | 2,u,_=>u=.string r.name
 | 3,u,_=>u=.pointer (some ⟨B,0,none⟩)
 | 4,u,_=>u=.int .i64 (i:Int)
 | 5,u,w=>w.ownsRow W.heap.size 3 1 u r.sizes.length (Fh r.sizes)
 | 6,u,_=>u=.slice (some ⟨gL,0,none⟩) n n
 | 7,u,_=>u=.int .i64 (i:Int)
 | 8,u,_=>u=.pointer (some ⟨gL,i,none⟩)
 | 9,u,_=>u=.int .i64 (r.layer:Int)
 | 10,u,w=>∃ sv,u=.agg #[.string r.name,sv,.int .i64 (r.layer:Int)]∧w.ownsRow W.heap.size 3 1 sv r.sizes.length (Fh r.sizes)
 | 11,u,w=>∃ sv g,u=.slice (some ⟨g,0,none⟩) 1 1∧AK w g #[.string r.name,sv,.int .i64 (r.layer:Int)]∧W.heap.size≤g∧w.ownsRow W.heap.size 3 1 sv r.sizes.length (Fh r.sizes)
 | _,_,_=>True
theorem Vt {W:World} {B gL n i:Nat} {v:Value} {r:HN} (j:Nat) (u:Value) (w w':World) (h:gX W B gL n i v r j u w) (k:AA [] w w'):gX W B gL n i v r j u w':=by
 rcases j with _ | _ | _ | _ | _ | _ | _ | _ | _ | _ | _ | _ | j
 all_goals first
  | exact h
  | exact AH h k
  | (obtain ⟨sv,h1,h2⟩:=h;exact ⟨sv,h1,AH h2 k⟩)
  | (obtain ⟨sv,g,h1,h2,h3,h4⟩:=h;exact ⟨sv,g,h1,h2.keeps k,h3,AH h4 k⟩)
def EF (m:Mean) (vals:List Nat):List HN:=m.rels.zipIdx.map fun p=>⟨p.1.1,p.1.2.map m.size,vals.getD p.2 0⟩
theorem aV {m:Mean} {vals:List Nat} {i:Nat} {s:ByteArray} {ds:List Nat} (h:m.rels[i]?=some (s,ds)):(EF m vals)[i]?=some ⟨s,ds.map m.size,vals.getD i 0⟩:=by
 simp [EF,List.getElem?_zipIdx,h]
theorem Ii {m:Mean} {vals:List Nat}:(EF m vals).length=m.rels.length:=by simp [EF]
def mY (W0:World) (b4 base:Nat) (rs:List HN) (pre:List (Nat×ByteArray)) (W:World):Prop:=AA [b4] W0 W∧∃ v vs,AK W b4 #[v]∧W.ownsRow base 144 3 v pre.length vs∧EG W base (Aa v) (rs.take pre.length) vs
theorem Ka {b base:Nat} {e:TypeId} {size n:Nat} {v:Value} {xs:List Value} {w w':World} (h:w.ownsRow base e size v n xs) (hs:GU b w w'):w'.ownsRow base e size v n xs:=by
 obtain ⟨e0,⟨e1,e2⟩ | ⟨g,cap,cur,e1,e2,e3,e4⟩⟩:=h
 ·exact ⟨e0,.inl ⟨e1,e2⟩⟩
 ·exact ⟨e0,.inr ⟨g,cap,cur,e1,e2,(hs.block _ (AO.1 e3).1 (.inr ⟨_,_,_,e3⟩)).trans e3,e4⟩⟩
theorem EG.still {b:Nat} {w w':World} {base:Nat} {X:List Nat} {rs:List HN} {vs:List Value} (h:EG w base X rs vs) (hs:GU b w w'):EG w' base X rs vs:=by
 induction rs generalizing vs with
 | nil=>exact h
 | cons r rs ih=>
  obtain ⟨v,rest,h1,h2,h3,h4⟩:=h;exact ⟨v,rest,h1,Ka h2 hs,h3,ih h4⟩
theorem L0 {a:Act} {o:Oper} {w:World} {x:Operand} {v:Value} (hop:o.op=.move x) (hx:a.eval x=v):(execOp a.eval o).run prog w=.ok (.value v) w:=by
 simp [execOp,hop,hx]
theorem Vp {a:Act} {o:Oper} {w:World} {x y:Operand} {t base e size bytes n m c:Nat} {i:TypeInfo} {z v:Value} {xs news:List Value} {ad:Addr} (hop:o.op=.call { callee:=.builtin .append,args:=#[x,y],argTypes:=#[t,t] }) (hx:a.eval x=v) (hy:a.eval y=.slice (some ad) m c) (ht:prog.underlying t=some (.slice e)) (hi:prog.info? e=some i) (hz:i.zero=some z)
  (hsize:i.size=size) (hby:i.bytes=bytes) (hzs:z.cells.size=size) (hsz:0<size) (hown:w.ownsRow base e size v n xs) (hl:news.length=m * size) (hnews:∀ j u,news[j]?=some u→w.cell? (ad.add j)=some u) (h1:∀ u∈news,u.oneCell' = true)
  (h63:n+m≤maxLen) (hbytes:(n+m) * bytes≤140737488355328) (hbase:base≤w.heap.size) :
  ∃ v' w',(execOp a.eval o).run prog w=.ok (.value v') w'∧w'.ownsRow base e size v' (n+m) (xs++news)∧w.grownBy w' v.ownBlock∧(v'.ownBlock=v.ownBlock∨v'.ownBlock=some w.heap.size):=by
 obtain ⟨v',w',hr,h2,h3,_,h5⟩:=run_append_own_at (P:=prog) w base t o.type e i z size bytes ht hi hz hsize hby hzs hsz v n xs hown ad m c news hl hnews h1 h63 hbytes hbase;refine ⟨v',w',?_,h2,h3,h5⟩;simp only [execOp,hop,resolve,invoke,builtin,Sem.run_bind,Sem.run_pure,Result.andThen_ok,List.map_toArray,Au,Dc,hx,hy,hr]
theorem ld123 {o:Oper} {a:Act} {u:World} {x:Operand} {b k:Nat} {v:Value} (hop:o.op=.load 123 x) (hx:a.eval x=.pointer (some ⟨b,k,none⟩)) (c:u.cell? ⟨b,k,none⟩=some v):(execOp a.eval o).run prog u=.ok (.value v) u:=by
 simp only [execOp,hop,hx];go_simp
theorem ld201 {o:Oper} {a:Act} {u:World} {x:Operand} {b k:Nat} {v:Value} (hop:o.op=.load 201 x) (hx:a.eval x=.pointer (some ⟨b,k,none⟩)) (c:u.cell? ⟨b,k,none⟩=some v):(execOp a.eval o).run prog u=.ok (.value v) u:=by
 simp only [execOp,hop,hx];go_simp
theorem ld40 {o:Oper} {a:Act} {u:World} {x:Operand} {b k:Nat} {v:Value} (hop:o.op=.load 40 x) (hx:a.eval x=.pointer (some ⟨b,k,none⟩)) (c:u.cell? ⟨b,k,none⟩=some v):(execOp a.eval o).run prog u=.ok (.value v) u:=by
 simp only [execOp,hop,hx];go_simp
theorem ld3 {o:Oper} {a:Act} {u:World} {x:Operand} {b k:Nat} {v:Value} (hop:o.op=.load 3 x) (hx:a.eval x=.pointer (some ⟨b,k,none⟩)) (c:u.cell? ⟨b,k,none⟩=some v):(execOp a.eval o).run prog u=.ok (.value v) u:=by
 simp only [execOp,hop,hx];go_simp
theorem ix40 {o:Oper} {a:Act} {u:World} {x y:Operand} {b i n c:Nat} (hop:o.op=.indexAddr 40 x y) (hx:a.eval x=.slice (some ⟨b,0,none⟩) n c) (hy:a.eval y=.int .i64 (i:Int)) (hi:(i:Int)<n):(execOp a.eval o).run prog u=.ok (.value (.pointer (some ⟨b,i,none⟩))) u:=by
 simp only [execOp,hop,hx,hy];go_simp
theorem bd144 {o:Oper} {a:Act} {u:World} {x y z:Operand} {s:ByteArray} {sa:Option Addr} {sn sc:Nat} {L:Int} (hop:o.op=.build 144 #[(0,x),(1,y),(2,z)]) (hx:a.eval x=.string s) (hy:a.eval y=.slice sa sn sc) (hz:a.eval z=.int .i64 L):(execOp a.eval o).run prog u=.ok (.value (.agg #[.string s,.slice sa sn sc,.int .i64 L])) u:=by
 simp only [execOp,hop,List.map_toArray,Au,Dc,hx,hy,hz];go_simp
theorem bs123 {o:Oper} {a:Act} {u:World} {x:Operand} {s:ByteArray} {sa:Option Addr} {sn sc:Nat} {L:Int} (hop:o.op=.buildSlice 123 1 #[(0,x)]) (hx:a.eval x=.agg #[.string s,.slice sa sn sc,.int .i64 L]):(execOp a.eval o).run prog u=.ok (.value (.slice (some ⟨u.heap.size,0,none⟩) 1 1)) (u.alloc (.cells #[.string s,.slice sa sn sc,.int .i64 L] 144)):=by
 simp only [execOp,hop,List.map_toArray,Au,Dc,hx];go_simp
theorem st123 {o:Oper} {a:Act} {u:World} {x y:Operand} {b:Nat} {v:Value} {sa:Option Addr} {sn sc:Nat} (hop:o.op=.store 123 x y) (hx:a.eval x=.pointer (some ⟨b,0,none⟩)) (hy:a.eval y=.slice sa sn sc) (c:u.cell? ⟨b,0,none⟩=some v) (f:u.frozen? ⟨b,0,none⟩=false):(execOp a.eval o).run prog u=.ok .skip (u.setCell ⟨b,0,none⟩ (.slice sa sn sc)):=by
 simp only [execOp,hop,hx,hy];go_simp
theorem EG.noCells {w w':World} {base base' d:Nat} {X:List Nat} {rs:List HN} {vs:List Value} (h:EG w base X rs vs) (k:AA [d] w w') (hd:∀ cs t f,w.heap[d]?≠some (.cells cs t f)) (hb:base'≤base):EG w' base' X rs vs:=by
 induction rs generalizing vs with
 | nil=>exact h
 | cons r rs ih=>
  obtain ⟨v,rest,h1,h2,h3,h4⟩:=h;refine ⟨v,rest,h1,BZ (AH h2 k (fun j hj q=>?_)) hb,h3,ih h4⟩;have e:j=d:=(by simpa using q);obtain ⟨_,cs,t,b2⟩:=As h2 j hj;rw [e] at b2;exact hd _ _ _ b2
def kQ (W5 W:World) (b4:Nat) (rs:List HN) (pre:List (Nat×ByteArray)) (nv:Value) (w':World):Prop:=∃ v vs,AK w' b4 #[v]∧w'.ownsRow W5.heap.size 144 3 nv (pre.length+1) vs∧EG w' W5.heap.size (Aa nv) (rs.take (pre.length+1)) vs∧AA [b4] W5 w'∧GY W5.heap.size [b4] W w'∧(∀ j∈Aa nv,j≠b4)
set_option maxHeartbeats 8000000 in
theorem gY (n:Nat) {w:World} {mb B:Nat} {m:Mean} (hm:B5 w mb B m) (hok:DA m) (hnc:∀ c∈m.clauses,ET m.rels.length (Cf m.clauses) c=false) (hnm:∀ r∈m.rels,r.1.size≤1000000) :
  CallsIn Fence.wide n prog 138 #[.pointer (some ⟨B,0,none⟩)] w fun e w'=>(∃ vals v vs,M6 m.clauses m.rels.length vals∧Dr layG m.clauses vals∧e=.returned v∧w'.ownsRow w.heap.size 144 3 v m.rels.length vs∧EG w' w.heap.size (Aa v) (EF m vals) vs)∧AA [] w w':=by
 obtain ⟨i0,hi0,hz0,hz1,hz2⟩:=info_parts iY;have hBl:=JH hm;have hn6:=hok.rels;have k1:=AA.alloc [] w (.cells #[.pointer (some ⟨B,0,none⟩)] 201);have a1:=AK.new w #[.pointer (some ⟨B,0,none⟩)] 201;have hlay:=AD (SA (hm.keeps k1) hok hnc);rw [AX] at hlay;obtain ⟨tD,mD,sz,tN,mN,co,cl,ln,cvs,kvs,hV⟩:=id hm;obtain ⟨aN,cN,hN⟩:=Al hV.names.row;rw [AY] at hN;subst hN;have Hm:=AD hm;have Hok:=AD hok;have HV:=AD hV;clear hm hok hnc hV;refine callsIn_of_wp_marks func138 rfl trivial ?_ rfl;simp only [ntmps138,Bw,AU,Ao,Nat.reduceAdd,Nat.reduceSub,B0,Bz,CW,Bo,BM,A8];gi_wp2_with fail
 refine ⟨trivial,fun h=>(nomatch h),?_⟩;refine (callsIn_wide.2 hlay.out).mono ?_;rintro e w1 ⟨⟨vals,rfl,hL,hLI,hLs⟩,k2⟩;have z1:w.heap.size+2≤w1.heap.size:=hL.lt;have a1':=a1.keeps k2;have kw1:=k1.trans k2;have k3:=AA.alloc [] w1 (.cells #[.slice (some ⟨w.heap.size+1,0,none⟩) m.rels.length m.rels.length] 40);have a3:=AK.new w1 #[.slice (some ⟨w.heap.size+1,0,none⟩) m.rels.length m.rels.length] 40;have k4:=AA.alloc [] (w1.alloc (.cells #[.slice (some ⟨w.heap.size+1,0,none⟩) m.rels.length m.rels.length] 40)) (.cells #[.slice none 0 0] 123);have a4:=AK.new (w1.alloc (.cells #[.slice (some ⟨w.heap.size+1,0,none⟩) m.rels.length m.rels.length] 40)) #[.slice none 0 0] 123;rw [AX] at a4;have k34:=k3.trans k4;have b1:=a1'.keeps k34;have bL:=hL.keeps k34;have b3:=a3.keeps k4;have kw4:=kw1.trans k34;have c1:=a1'.cell 0;simp at c1;have zz:((w1.alloc (.cells #[.slice (some ⟨w.heap.size+1,0,none⟩) m.rels.length m.rels.length] 40)).alloc (.cells #[.slice none 0 0] 123)).heap.size=w1.heap.size+2:=by rw [AX,AX]
 have cN3:=(HV.out.cells.keeps kw4).cell 3;have hB3:=Zj (w:=(w1.alloc (.cells #[.slice (some ⟨w.heap.size+1,0,none⟩) m.rels.length m.rels.length] 40)).alloc (.cells #[.slice none 0 0] 123)) (B:=B) cN3;have HB3:=AD hB3;clear hB3 cN3 k3 k4 a3 k34 a1 a1' hL hlay;have hw1l:w.heap.size<w1.heap.size:=by omega
 gi_wp2_with fail
 generalize (w1.alloc (.cells #[.slice (some ⟨w.heap.size+1,0,none⟩) m.rels.length m.rels.length] 40)).alloc (.cells #[.slice none 0 0] 123)=W4 at *;refine ⟨trivial,fun h=>(nomatch h),?_⟩;refine (callsIn_wide.2 HB3.out).mono ?_;rintro e w5 ⟨rfl,rfl⟩;have k5:=AA.alloc [] W4 (.cells #[.slice aN m.rels.length cN] 35);have hp5:=AK.new W4 #[.slice aN m.rels.length cN] 35;have d1:=b1.keeps k5;have dL:=bL.keeps k5;have d3:=b3.keeps k5;have d4:=a4.keeps k5;have kw5:=kw4.trans k5;have z5:(W4.alloc (.cells #[.slice aN m.rels.length cN] 35)).heap.size=w1.heap.size+3:=by rw [AX,zz]
 have hit:=eZ (w:=W4.alloc (.cells #[.slice aN m.rels.length cN] 35)) (p:=W4.heap.size) (g:=(aN.map (·.block)).getD 0) (c:=cN) (ns:=m.rels.map Prod.fst) (a:=aN) (by rw [AY];exact hp5) (fun s hs=>by
   have hpos:0<(m.rels.map Prod.fst).length:=Ck hs;have hrow:=HV.out.names.row;have hle:(m.rels.map Prod.fst).length=m.rels.length:=(by rw [AY]);rw [hle] at hrow hpos;obtain ⟨g,hg⟩:=DK hrow hpos;subst hg;exact ⟨rfl,A4 (Bd hrow g rfl).2 kw5.size⟩) (fun {W} hW i s hs=>by
   have hrow:=HV.out.names.row;have hle:(m.rels.map Prod.fst).length=m.rels.length:=(by rw [AY]);rw [hle] at hrow;have hpos:0<m.rels.length:=by
    rcases BP i (m.rels.map Prod.fst).length with q | q
    ·rw [hle] at q;omega
    ·rw [Af q] at hs;cases hs
   obtain ⟨g,hg⟩:=DK hrow hpos;subst hg;have h5:=AH hrow kw5;have hc:=BL h5 (j:=i) (v:=.string s) (by simp [eS];simpa using hs);have hb:W.heap[g]?=(W4.alloc (.cells #[.slice (some ⟨g,0,none⟩) m.rels.length cN] 35)).heap[g]?:=hW g rfl;obtain ⟨_,⟨h1,_⟩ | ⟨g',cap,cur,hv,hb',hg,hn,hc',hs',htk⟩⟩:=h5
   ·cases h1
   ·cases hv;have hcc:AK W g cur:=⟨_,by rw [hb];exact hg⟩;have hcc':AK (W4.alloc (.cells #[.slice (some ⟨g,0,none⟩) m.rels.length cN] 35)) g cur:=⟨_,hg⟩;rw [hcc'.cell] at hc;show W.cell? ⟨g,i,none⟩=_;rw [hcc.cell];exact hc) (by rw [AY];omega) [w1.heap.size+1] (fun t ht=>by
   have e:t=w1.heap.size+1:=(by simpa using ht);refine ⟨by rw [z5];omega,by rw [e,zz];omega,fun hne=>?_⟩;have hrow:=HV.out.names.row;have hle:(m.rels.map Prod.fst).length=m.rels.length:=(by rw [AY]);have hpos:0<(m.rels.map Prod.fst).length:=List.length_pos_iff.2 hne;rw [hle] at hrow hpos;obtain ⟨g,hg⟩:=DK hrow hpos;subst hg;have:=(Bd hrow g rfl).2;show t≠g
   omega)
 have h0:mY (W4.alloc (.cells #[.slice aN m.rels.length cN] 35)) (w1.heap.size+1) (W4.alloc (.cells #[.slice aN m.rels.length cN] 35)).heap.size (EF m vals) [] (W4.alloc (.cells #[.slice aN m.rels.length cN] 35)):=⟨AA.refl _ _,.slice none 0 0,[],d4,World.ownsRow_nil ..,rfl⟩;have Hd1:=AD d1;have HdL:=AD dL;have Hd3:=AD d3;have Hkw:=AD kw5;clear d1 dL d3 d4 kw5 hp5 k5 a4 b1 bL b3 kw4 kw1 HB3;generalize hW5:W4.alloc (.cells #[.slice aN m.rels.length cN] 35)=W5 at *;rw [zz] at hit;gi_wp2_with fail
 refine V2 (gf:=222) (lb:=#[.pointer (some ⟨w1.heap.size+2,0,none⟩)]) rfl (enters_of func222 (by kernel_rfl) rfl) (T:=[w1.heap.size+1]) (by simp;omega) hit (fun _=>rfl)
  (mY W5 (w1.heap.size+1) W5.heap.size (EF m vals))
  (fun pre W1 W2 hI hs=>by
   obtain ⟨kk,v,vs,h1,h2,h3⟩:=hI;have hlt:=h1.lt
   refine ⟨⟨hs.os.trans kk.os,hs.tape.trans kk.tape,hs.output.trans kk.output,At kk.size hs.size,fun i hi hn=>(hs.block i (A4 hi kk.size) (.inl hi)).trans (kk.block i hi hn)⟩,v,vs,h1.of_heap (hs.block _ hlt (.inl (by omega))),Ka h2 hs,h3.still hs⟩) h0
  (fun x a' _=>a' = { tmps:=#[.pointer (some ⟨B,0,none⟩),.pointer (some ⟨w.heap.size,0,none⟩),.slice none 0 0,.pointer (some ⟨w1.heap.size,0,none⟩),.pointer (some ⟨w1.heap.size+1,0,none⟩),.int .i64 (x.1:Int),.string x.2,.pointer (some ⟨B,0,none⟩),.slice (some ⟨w.heap.size+1,0,none⟩) m.rels.length m.rels.length,.pointer (some ⟨B,0,none⟩),.pointer (some ⟨B,0,none⟩),.pointer (some ⟨B,3,none⟩),.func (.func 222) #[] #[.pointer (some ⟨w1.heap.size+2,0,none⟩)],.int .i64 (x.1:Int),.string x.2,undef,undef,undef,undef,undef,undef,undef,undef,undef,undef,undef,undef,undef,undef],defers:=[] })
  (fun x a' W1 W2 h _=>h) ?assign ?body ?done
 case assign=>
  intro l pre x W K hlt hi hc hK;simp only [eP,List.zip_toArray,List.zip_cons_cons,List.zip_nil_right,List.foldl_toArray',Bw,AU,Ao,List.foldl_cons,List.foldl_nil,AI,AR,AS];gi_wp2
  exact hK _ _ rfl (AA.refl _ _)
 case body=>
  rintro l pre ⟨i,s⟩ a' W hlt ⟨kW,v,vs,hc4,hown,hrv⟩ ⟨hi,hs⟩ rfl;have hfol:prog.follows .mixedOrders=true:=by kernel_rfl
  have hi':i=pre.length:=hi;subst hi';have hrs:∃ ds,m.rels[pre.length]?=some (s,ds):=by
   rw [AW] at hs;cases hq:m.rels[pre.length]? with
   | none=>rw [hq] at hs;cases hs
   | some q=>rw [hq] at hs;cases hs;exact ⟨q.2,rfl⟩
  obtain ⟨ds,hrs⟩:=hrs;have hrm:=aV (vals:=vals) hrs;have hprl:pre.length<m.rels.length:=by
   rcases BP pre.length m.rels.length with q | q
   ·exact q
   ·rw [Af q] at hrs;cases hrs
  have hnl:s.size≤1000000:=hnm _ (AE hrs);have kwW:AA [] w W:=Hkw.out.trans_new kW (fun j hj=>.inr (by have e:j=w1.heap.size+1:=(by simpa using hj);omega));have e1:=Hd1.out.keeps kW (by simp;omega);have eL:=HdL.out.keeps kW (by simp;omega);have e3:=Hd3.out.keeps kW;have Hsz:=AD (fun (W':World) (k:AA [] W W')=>Pr (Hm.out.keeps (kwW.trans k)) Hok.out hrs);have hvl:vals.length=m.rels.length:=hLI.1;generalize hRM:(⟨s,ds.map m.size,vals.getD pre.length 0⟩:HN)=r at *;have hrn:r.name=s:=by rw [←hRM]
  have hrz:r.sizes=ds.map m.size:=by rw [←hRM]
  have hrl:r.layer=vals.getD pre.length 0:=by rw [←hRM]
  have hzW:=kW.size;have Hown:=AD hown;have Hrv:=AD hrv;clear hit hown hrv h0;gi_wp2_with fail
  refine Ic (S:=fun listed a w'=>fL 15 12 (gX W B (w.heap.size+1) m.rels.length pre.length v r) { tmps:=#[.pointer (some ⟨B,0,none⟩),.pointer (some ⟨w.heap.size,0,none⟩),.slice none 0 0,.pointer (some ⟨w1.heap.size,0,none⟩),.pointer (some ⟨w1.heap.size+1,0,none⟩),.int .i64 (pre.length:Int),.string s,.pointer (some ⟨B,0,none⟩),.slice (some ⟨w.heap.size+1,0,none⟩) m.rels.length m.rels.length,.pointer (some ⟨B,0,none⟩),.pointer (some ⟨B,0,none⟩),.pointer (some ⟨B,3,none⟩),.func (.func 222) #[] #[.pointer (some ⟨w1.heap.size+2,0,none⟩)],.int .i64 (pre.length:Int),.string s,undef,undef,undef,undef,undef,undef,undef,undef,undef,undef,undef,undef,undef,undef],defers:=[] } W listed a w'
    ∨ (listed.getD 12 false=true∧listed.getD 13 false=false∧a.eval (.tmp 4)=.pointer (some ⟨w1.heap.size+1,0,none⟩)∧∃ nv,a.eval (.tmp 27)=nv∧kQ W5 W (w1.heap.size+1) (EF m vals) pre nv w')
    ∨ (listed.getD 13 false=true∧mY W5 (w1.heap.size+1) W5.heap.size (EF m vals) (pre++[(pre.length,s)]) w'∧GY W5.heap.size [w1.heap.size+1] W w')) hfol (by kernel_rfl) ?_ ?_ ?_
  ·exact .inl ⟨rfl,fun _ _=>rfl,rfl,AA.drew [] W,fun j hj hl=>(by rw [Eh] at hl;cases hl),rfl,Eh _ _,Eh _ _⟩
  ·intro listed a u i hS hcl hlz hi14 hin hdep;rcases hS with hF | ⟨h12,h13,hp4,nv,hnv,hD⟩ | ⟨h13,_⟩
   ·have put:=fun {j:Nat} {u':World} {v':Value} (k:AA [] u u') (hj:j<12) (hv:gX W B (w.heap.size+1) m.rels.length pre.length v r j v' u')=>hF.put (i:=j) (Vt (W:=W) (B:=B) (gL:=w.heap.size+1) (n:=m.rels.length) (i:=pre.length) (v:=v) (r:=r)) k hj (show 27≤29 by omega) hv;have keep:=hF.keep;have t1:a.eval (.tmp 1)=.pointer (some ⟨w.heap.size,0,none⟩):=hF.low 1 (by omega);have t3:a.eval (.tmp 3)=.pointer (some ⟨w1.heap.size,0,none⟩):=hF.low 3 (by omega);have t4:a.eval (.tmp 4)=.pointer (some ⟨w1.heap.size+1,0,none⟩):=hF.low 4 (by omega);have t5:a.eval (.tmp 5)=.int .i64 (pre.length:Int):=hF.low 5 (by omega);have t6:a.eval (.tmp 6)=.string s:=hF.low 6 (by omega);have got:=fun (j:Nat) (hj:j<12) (hl:listed.getD j false=true)=>hF.got j hj hl;match i,hi14,hdep,hin with
    | 0,_,hdep,_=>
     have c:=(hc4.keeps keep).cell 0;exact D4 rfl rfl (by intro c h;cases h) (ld123 rfl t4 c) (.inl (put (AA.refl _ _) (by omega) rfl))
    | 1,_,hdep,_=>exact D4 rfl rfl (by intro c h;cases h) (L0 rfl t6) (.inl (put (AA.refl _ _) (by omega) (by rw [←hrn];rfl)))
    | 2,_,hdep,_=>
     have g1:a.eval (.tmp 16)=.string r.name:=got 1 (by omega) (hdep _ rfl ⟨1,.data⟩ (by simp) rfl);refine Mj rfl rfl (by intro c h;cases h) (L1 203 _ _ rfl _ func203 (by kernel_rfl) (by kernel_rfl) [.string r.name] (by simp [g1])) (PJ r.name (by rw [hrn];exact hnl)) ?_;rintro e u' ⟨rfl,k⟩;exact ⟨_,rfl,.inl (put k (by omega) rfl)⟩
    | 3,_,hdep,_=>
     have c:=(e1.keeps keep).cell 0;exact D4 rfl rfl (by intro c h;cases h) (ld201 rfl t1 c) (.inl (put (AA.refl _ _) (by omega) rfl))
    | 4,_,hdep,_=>exact D4 rfl rfl (by intro c h;cases h) (L0 rfl t5) (.inl (put (AA.refl _ _) (by omega) rfl))
    | 5,_,hdep,_=>
     have g1:a.eval (.tmp 18)=.pointer (some ⟨B,0,none⟩):=got 3 (by omega) (hdep _ rfl ⟨3,.data⟩ (by simp) rfl);have g2:a.eval (.tmp 19)=.int .i64 (pre.length:Int):=got 4 (by omega) (hdep _ rfl ⟨4,.data⟩ (by simp) rfl);refine Mj rfl rfl (by intro c h;cases h) (L1 204 _ _ rfl _ func204 (by kernel_rfl) (by kernel_rfl) [.pointer (some ⟨B,0,none⟩),.int .i64 (pre.length:Int)] (by simp [g1,g2])) (Hsz.out u keep) ?_;rintro e u' ⟨⟨sv,rfl,hsv⟩,k⟩;refine ⟨_,rfl,.inl (put k (by omega) ?_)⟩;show u'.ownsRow W.heap.size 3 1 sv r.sizes.length (Fh r.sizes);rw [hrz,AY];exact BZ hsv keep.size
    | 6,_,hdep,_=>
     have c:=(e3.keeps keep).cell 0;exact D4 rfl rfl (by intro c h;cases h) (ld40 rfl t3 c) (.inl (put (AA.refl _ _) (by omega) rfl))
    | 7,_,hdep,_=>exact D4 rfl rfl (by intro c h;cases h) (L0 rfl t5) (.inl (put (AA.refl _ _) (by omega) rfl))
    | 8,_,hdep,_=>
     have g1:a.eval (.tmp 21)=.slice (some ⟨w.heap.size+1,0,none⟩) m.rels.length m.rels.length:=got 6 (by omega) (hdep _ rfl ⟨6,.data⟩ (by simp) rfl);have g2:a.eval (.tmp 22)=.int .i64 (pre.length:Int):=got 7 (by omega) (hdep _ rfl ⟨7,.data⟩ (by simp) rfl);have hpI:(pre.length:Int)<m.rels.length:=(by omega);exact D4 rfl rfl (by intro c h;cases h) (ix40 rfl g1 g2 hpI) (.inl (put (AA.refl _ _) (by omega) rfl))
    | 9,_,hdep,_=>
     have g1:a.eval (.tmp 23)=.pointer (some ⟨w.heap.size+1,pre.length,none⟩):=got 8 (by omega) (hdep _ rfl ⟨8,.data⟩ (by simp) rfl);have c:u.cell? ⟨w.heap.size+1,pre.length,none⟩=some (.int .i64 (r.layer:Int)):=by rw [(eL.keeps keep).cell,hrl];exact Fu (by omega)
     exact D4 rfl rfl (by intro c h;cases h) (ld3 rfl g1 c) (.inl (put (AA.refl _ _) (by omega) rfl))
    | 10,_,hdep,_=>
     have g1:a.eval (.tmp 17)=.string r.name:=got 2 (by omega) (hdep _ rfl ⟨2,.data⟩ (by simp) rfl);have g2:u.ownsRow W.heap.size 3 1 (a.eval (.tmp 20)) r.sizes.length (Fh r.sizes):=got 5 (by omega) (hdep _ rfl ⟨5,.data⟩ (by simp) rfl);have g3:a.eval (.tmp 24)=.int .i64 (r.layer:Int):=got 9 (by omega) (hdep _ rfl ⟨9,.data⟩ (by simp) rfl);obtain ⟨sa,sc,hsv⟩:=Al g2;rw [hsv] at g2;exact D4 rfl rfl (by intro c h;cases h) (bd144 rfl g1 hsv g3) (.inl (put (AA.refl _ _) (by omega) ⟨_,rfl,g2⟩))
    | 11,_,hdep,_=>
     obtain ⟨sv,g1,g2⟩:∃ sv,a.eval (.tmp 25)=.agg #[.string r.name,sv,.int .i64 (r.layer:Int)]∧u.ownsRow W.heap.size 3 1 sv r.sizes.length (Fh r.sizes):=got 10 (by omega) (hdep _ rfl ⟨10,.data⟩ (by simp) rfl);obtain ⟨sa,sc,hsv⟩:=Al g2;subst hsv;have kA:=AA.alloc [] u (.cells #[.string r.name,.slice sa r.sizes.length sc,.int .i64 (r.layer:Int)] 144);exact D4 rfl rfl (by intro c h;cases h) (bs123 rfl g1) (.inl (put kA (by omega) ⟨_,u.heap.size,rfl,AK.new u _ 144,keep.size,AH g2 kA⟩))
    | 12,_,hdep,_=>
     have g0:a.eval (.tmp 15)=v:=got 0 (by omega) (hdep _ rfl ⟨0,.data⟩ (by simp) rfl);obtain ⟨sv,g,g1,g2,g3,g4⟩:∃ sv g,a.eval (.tmp 26)=.slice (some ⟨g,0,none⟩) 1 1∧AK u g #[.string r.name,sv,.int .i64 (r.layer:Int)]∧W.heap.size≤g∧u.ownsRow W.heap.size 3 1 sv r.sizes.length (Fh r.sizes):=got 11 (by omega) (hdep _ rfl ⟨11,.data⟩ (by simp) rfl);have hzu:=keep.size
     obtain ⟨nv, u', hrun, hown', hgrow, hat⟩ := Vp (o := ⟨some 27, .call { callee := .builtin .append, args := #[.tmp 15, .tmp 26], argTypes := #[123, 123] }, 123, "meaning.go:122", #[⟨0, .data⟩, ⟨11, .data⟩, ⟨5, .chain⟩], none⟩) (a := a) (w := u) (base := W5.heap.size) (n := pre.length) (news := [.string r.name, sv, .int .i64 (r.layer : Int)]) rfl g0 g1 underlying123 hi0 hz0 hz1 hz2 rfl (by decide) (AH Hown.out keep) (by simp) (fun j x hx => by
      rw [Addr.add_lit,Ag,g2.cell];match j with
      | 0=>simpa using hx
      | 1=>simpa using hx
      | 2=>simpa using hx
      | j+3=>simp at hx) (by
      obtain ⟨sa,sc,hsv⟩:=Al g4;subst hsv
      simp [Value.oneCell']) (by unfold maxLen;omega) (by omega) (by omega)
     refine D4 rfl rfl (by intro c h;cases h) hrun (.inr (.inl ⟨?_,?_,?_,nv,?_,?_⟩))
     ·rw [BA,AZ,if_pos rfl,if_pos (by rw [hF.room];omega)];rfl
     ·rw [Ff (by omega)];exact hF.more.2
     ·exact (Of (d:=27) (j:=4) (by omega)).trans t4
     ·exact GM (by rw [hF.size];show 27<29;omega)
     ·have hvl2:∀ j∈Aa v,W5.heap.size≤j∧j<W.heap.size:=fun j hj=>DJ Hown.out j hj;have hsvl:∀ j∈Aa sv,W.heap.size≤j∧j<u.heap.size:=fun j hj=>DJ g4 j hj;have k6:=grownBy_keeps' hgrow (Aa v) (fun r e=>.inl (by simp [Aa,e]));have htk:(EF m vals).take (pre.length+1)=(EF m vals).take pre.length++[r]:=by rw [An,hrm];rfl
      have hr1:=(Hrv.out.keeps keep).snoc (BZ g4 hzW) (fun j hj q=>by have:=hvl2 j q;have:=hsvl j hj;omega);have hY:∀ j∈Aa nv++Aa v,j∈Aa v∨u.heap.size≤j:=fun j hj=>by
       rcases AC.1 hj with q | q
       ·rcases hat with p | p
        ·left;simp only [Aa] at q ⊢;rw [←p];exact q
        ·right;simp only [Aa] at q;rw [p] at q;simp at q;omega
       ·exact .inl q
      refine ⟨v,vs++[.string r.name,sv,.int .i64 (r.layer:Int)],(hc4.keeps keep).keeps k6 (fun q=>by have:=(hvl2 _ q).1;omega),hown',?_,(kW.trans (keep.mono (by simp))).trans_new k6 (fun j hj=>.inr (hvl2 j hj).1),(keep.grows (by simp)).trans (k6.growsRow (fun j hj=>.inr ?_)),fun j hj=>?_⟩
      ·rw [htk];exact ((hr1.apart hY).keeps k6 (fun j hj=>.inl (AT _ hj))).apart (fun j hj=>.inl (AN _ hj))
      ·obtain ⟨b1,cs,t,b2⟩:=As (AH Hown.out keep) j (by simpa [Aa] using hj);exact ⟨b1,cs,t,_,b2⟩
      ·have:=(DJ hown' j hj).1;omega
    | 13,_,hdep,_=>
     have:=hdep _ rfl ⟨12,.data⟩ (by simp) rfl;rw [hF.more.1] at this;cases this
   ·have l0:=hcl 12 h12 _ rfl ⟨0,.data⟩ (by simp) rfl;have l11:=hcl 12 h12 _ rfl ⟨11,.data⟩ (by simp) rfl;have l10:=hcl 11 l11 _ rfl ⟨10,.data⟩ (by simp) rfl;have l2:=hcl 10 l10 _ rfl ⟨2,.data⟩ (by simp) rfl;have l5:=hcl 10 l10 _ rfl ⟨5,.data⟩ (by simp) rfl;have l9:=hcl 10 l10 _ rfl ⟨9,.data⟩ (by simp) rfl;have l8:=hcl 9 l9 _ rfl ⟨8,.data⟩ (by simp) rfl;have l6:=hcl 8 l8 _ rfl ⟨6,.data⟩ (by simp) rfl;have l7:=hcl 8 l8 _ rfl ⟨7,.data⟩ (by simp) rfl;have l3:=hcl 5 l5 _ rfl ⟨3,.data⟩ (by simp) rfl;have l4:=hcl 5 l5 _ rfl ⟨4,.data⟩ (by simp) rfl;have l1:=hcl 2 l2 _ rfl ⟨1,.data⟩ (by simp) rfl;match i,hi14,hin with
    | 0,_,q=>rw [l0] at q;cases q
    | 1,_,q=>rw [l1] at q;cases q
    | 2,_,q=>rw [l2] at q;cases q
    | 3,_,q=>rw [l3] at q;cases q
    | 4,_,q=>rw [l4] at q;cases q
    | 5,_,q=>rw [l5] at q;cases q
    | 6,_,q=>rw [l6] at q;cases q
    | 7,_,q=>rw [l7] at q;cases q
    | 8,_,q=>rw [l8] at q;cases q
    | 9,_,q=>rw [l9] at q;cases q
    | 10,_,q=>rw [l10] at q;cases q
    | 11,_,q=>rw [l11] at q;cases q
    | 12,_,q=>rw [h12] at q;cases q
    | 13,_,_=>
     obtain ⟨v0,vs0,hb4,hown0,hrv0,k50,hg0,hne0⟩:=hD;obtain ⟨na,nc,hnv2⟩:=Al hown0;subst hnv2;have c:=hb4.cell 0;have f:=hb4.frozen 0;have ks:=AA.setCell u ⟨w1.heap.size+1,0,none⟩ (.slice na (pre.length+1) nc);refine Yv rfl rfl (by intro c h;cases h) (st123 rfl hp4 hnv c f) (.inr (.inr ⟨?_,⟨k50.trans ks,.slice na (pre.length+1) nc,vs0,hb4.setCell 0 _,?_,?_⟩,hg0.trans (ks.grows (by simp))⟩))
     ·rw [BA,AZ,if_pos rfl,if_pos (by rw [hlz];show 13<14;omega)];rfl
     ·rw [AJ,Ah];exact AH hown0 ks (fun j hj q=>hne0 j (by simp [Aa,hj]) (by simpa using q))
     ·rw [AJ,Ah];exact hrv0.keeps ks (fun j hj=>.inr (.inl (by have e:j=w1.heap.size+1:=(by simpa using hj);omega)))
   ·have all:∀ k,k<13→listed.getD k false=true:=fun k hk=>hcl 13 h13 _ rfl ⟨k,.phase⟩ (by
     match k,hk with
     | 0,_=>simp
     | 1,_=>simp
     | 2,_=>simp
     | 3,_=>simp
     | 4,_=>simp
     | 5,_=>simp
     | 6,_=>simp
     | 7,_=>simp
     | 8,_=>simp
     | 9,_=>simp
     | 10,_=>simp
     | 11,_=>simp
     | 12,_=>simp) rfl
    exfalso;have hi14':i<14:=hi14;rcases BP i 13 with q | q
    ·rw [all i q] at hin;cases hin
    ·have e:i=13:=(by omega);rw [e,h13] at hin;cases hin
  ·intro listed a u hS hall;have h12:=hall 12 (show 12<14 by omega);have h13:=hall 13 (show 13<14 by omega);rcases hS with hF | ⟨_,h,_⟩ | ⟨_,h1,h2⟩
   ·rw [hF.more.1] at h12;cases h12
   ·rw [h] at h13;cases h13
   ·exact ⟨by rw [←z5];exact h1,by rw [←z5];exact h2⟩
 case done=>
  rintro xs W hG ⟨kW,v,vs,hc4,hown,hrv⟩ hk hlt hD;have hG':xs.length=m.rels.length:=by have:xs.length=(m.rels.map Prod.fst).length:=hG;rw [AY] at this;exact this
  rw [hG'] at hown hrv;rw [A9 (by rw [Ii];exact AQ _)] at hrv;have c0:=hc4.cell 0;simp at c0;have Hown:=AD hown;have Hrv:=AD hrv;have HLI:=AD hLI;have HLs:=AD hLs;clear hown hrv hit;gi_wp2_with fail
  refine ⟨by simp,.inl ⟨_,_,rfl,run_takeDeferred hD,?_⟩⟩;refine ⟨_,results_tmp rfl _ _ _,⟨vals,v,vs,HLI.out,HLs.out,rfl,?_,?_⟩,?_⟩
  ·refine BZ (AH Hown.out (AA.putObj W W5.heap.size _) ?_) (by omega);intro j hj x;have e:j=W5.heap.size:=(by simpa using x);obtain ⟨b1,cs,t,b2⟩:=As Hown.out j hj;rw [e,hD] at b2;cases b2
  ·exact Hrv.out.noCells (AA.putObj W W5.heap.size _) (by rw [hD];intro _ _ _ e;cases e) (by omega)
  ·refine ((Hkw.out.trans_new hk ?_).trans_new (AA.putObj W W5.heap.size _) ?_)
   ·intro j hj;have e:j=w1.heap.size+1:=(by simpa using hj);exact .inr (by omega)
   ·intro j hj;have e:j=W5.heap.size:=(by simpa using hj);exact .inr (by omega)
theorem Vu {w:World} {mb B:Nat} {m:Mean} (hm:B5 w mb B m) (hok:DA m) (hnc:∀ c∈m.clauses,ET m.rels.length (Cf m.clauses) c=false) (hnm:∀ r∈m.rels,r.1.size≤1000000):Calls prog 138 #[.pointer (some ⟨B,0,none⟩)] w fun e w'=>(∃ vals v vs,M6 m.clauses m.rels.length vals∧Dr layG m.clauses vals∧e=.returned v∧w'.ownsRow w.heap.size 144 3 v m.rels.length vs∧EG w' w.heap.size (Aa v) (EF m vals) vs)∧AA [] w w':=
 callsIn_wide.1 (gY 0 hm hok hnc hnm)
theorem gJ {a p:Nat}:((a >>> p) &&& 1:Nat)=if a.testBit p then 1 else 0:=by
 rw [Nat.and_one_is_mod,Nat.testBit_eq_decide_div_mod_eq,Nat.shiftRight_eq_div_pow];by_cases h:a / 2 ^ p % 2=1
 ·simp [h]
 ·simp only [h,decide_false,BQ,if_false];omega
theorem gH (a p:Nat):(a:Int) / 2 ^ p=((a >>> p:Nat):Int):=by
 rw [Nat.shiftRight_eq_div_pow];simp
set_option maxHeartbeats 8000000 in
theorem QD {w:World} {mb B:Nat} {m:Mean} (hm:B5 w mb B m) (hok:DA m):Calls prog 137 #[.pointer (some ⟨B,0,none⟩)] w fun e w'=>YB 13 (EC (ET m.rels.length (Cf m.clauses)) m.clauses) e∧AA [] w w':=by
 obtain ⟨a,cc,la,lc,hBl,hpos,hcl⟩:=Hi hm;have hh:=AD (P8 hm hok);have hn6:=hok.rels;have hl52:=hok.clauses;have Hl4:=AD hok.lits;have Hrl:=AD hok.inR;have Hcl:=AD (fun (W:World) (k:AA [] w W)=>hcl k);have Hpos:=AD hpos;have hgu:=AD (fun (w:World) (l:Int)=>Ek (w:=w) 13 l);generalize hR:EC (ET m.rels.length (Cf m.clauses)) m.clauses=R;have HR:=AD hR;clear hR hcl hpos hm hok;go_in
 go_wp2_with fail
 refine hh.out.mono ?_;rintro e w1 ⟨⟨vals,rfl,hg,hvl,h64,hbit⟩,k1⟩;have b6:=(Hcl.out w1 k1).1;have hgl:=hg.lt;have Hg:=AD hg;have H64:=AD h64;have Hbit:=AD hbit;clear hh hg h64 hbit;generalize hnn:m.rels.length=n at *;go_wp2_with fail
 go_loopw [14] (fun x wr=>∃ i:Nat,x=.int .i64 i∧i≤m.clauses.length∧AA [] w1 wr∧EC (ET n (Cf m.clauses)) (m.clauses.drop i)=R) (fun x _=>m.clauses.length - (intOf x).toNat)
 case atStart=>exact ⟨0,rfl,by omega,AA.refl [] w1,by rw [BV];exact HR.out⟩
 case round=>
  obtain ⟨i,rfl,hil,kr,hres⟩:=hrel;clear b6 HR;have kw:=k1.trans kr;by_cases hlt:i<m.clauses.length
  ·obtain ⟨c,hc⟩:∃ c,m.clauses[i]?=some c:=⟨_,AB hlt⟩;have hdi:m.clauses.drop i=c :: m.clauses.drop (i+1):=by
    rw [BT hlt];congr 1
    rw [AB hlt] at hc;exact Ar hc
   rw [hdi,EC] at hres;have hcm:=AE hc;have hl4:=Hl4.out c hcm;obtain ⟨g,g2,hg,hgl2,hg2,hg2l⟩:=Hpos.out c hcm;subst hg;subst hg2;obtain ⟨_,b7,hlines,hcells⟩:=Hcl.out wr kw;obtain ⟨ha,hc',va,vc,ls,c0,c1,c2,hrow,hlrow,hlits⟩:=hcells i g c hc rfl;have hiI:(i:Int)<m.clauses.length:=(by omega);have hsz:=kw.size;have kK:=AA.alloc [] wr (.cells #[.int .i64 (c.head.rel:Int),.slice ha c.head.terms.length hc',.slice va c.lits.length vc] 154);have hK:=AK.new wr #[.int .i64 (c.head.rel:Int),.slice ha c.head.terms.length hc',.slice va c.lits.length vc] 154;have e2:=hK.cell 2;have HK:=AD hK;have Hc:=AD hc;have Hlr:=AD hlrow;have Hlits:=AD hlits;have Hrr:=AD (Hrl.out c hcm);have kw1:=kr.trans kK;have hcbl:=hK.lt;clear hdi hrow hlines hcells hK hc b7 hlrow hlits hcm;generalize hcbn:wr.heap.size=cb at *;go_wp2_with fail
   go_loopw [22] (fun x ws=>∃ j:Nat,x=.int .i64 j∧j≤c.lits.length∧AA [] w1 ws∧AK ws cb #[.int .i64 (c.head.rel:Int),.slice ha c.head.terms.length hc',.slice va c.lits.length vc]∧(if (c.lits.drop j).any (fun l=>l.2 && H8 n (Cf m.clauses) l.1.rel c.head.rel) then some c.line else EC (ET n (Cf m.clauses)) (m.clauses.drop (i+1)))=R) (fun x _=>c.lits.length - (intOf x).toNat)
   case atStart=>exact ⟨0,rfl,by omega,kw1,HK.out,by rw [BV];exact hres⟩
   case round=>
    obtain ⟨j,rfl,hjl,ks,hcb,hmk⟩:=hrel;clear e2 HK kw1 kK;have ksw:=k1.trans ks;have Hcb:=AD hcb;have hcbl2:=hcb.lt;clear hcb;by_cases hjlt:j<c.lits.length
    ·obtain ⟨l,hl⟩:∃ l,c.lits[j]?=some l:=⟨_,AB hjlt⟩;have hdj:c.lits.drop j=l :: c.lits.drop (j+1):=by
      rw [BT hjlt];congr 1
      rw [AB hjlt] at hl;exact Ar hl
     rw [hdj,List.any_cons] at hmk;obtain ⟨v,hv1,hv2⟩:=Hlits.out.at hl;obtain ⟨v1,v2,hvv⟩:=Al hv2;subst hvv;have hcr:=AH Hlr.out ksw;obtain ⟨gt,hgt⟩:=DK hcr (by omega);subst hgt;have d0:wr.cell? ⟨gt,j * 3,none⟩=some (.int .i64 (l.1.rel:Int)):=BL hcr (by have:=hv1 0 (by omega);rw [CY] at this;rw [this];rfl);have d1:wr.cell? ⟨gt,j * 3+1,none⟩=some (.slice v1 l.1.terms.length v2):=BL hcr (by rw [hv1 1 (by omega)];rfl);have d2:wr.cell? ⟨gt,j * 3+2,none⟩=some (.bool l.2):=BL hcr (by rw [hv1 2 (by omega)];rfl);have hgtl:gt<wr.heap.size:=(Bd hcr gt rfl).2;have hjI:(j:Int)<c.lits.length:=(by omega);have kL:=AA.alloc [] wr (.cells #[.int .i64 (l.1.rel:Int),.slice v1 l.1.terms.length v2,.bool l.2] 279);have hLc:=AK.new wr #[.int .i64 (l.1.rel:Int),.slice v1 l.1.terms.length v2,.bool l.2] 279;have hlm:=AE hl;have hlr:l.1.rel<n:=Hrr.out.2 l hlm;have hhr:c.head.rel<n:=Hrr.out.1;have hbit:=Hbit.out l.1.rel c.head.rel hlr;have h64:=H64.out l.1.rel;have hcb4:=Hcb.out.keeps kL;have hg4:=Hg.out.keeps (ks.trans kL);have f0:=hcb4.cell 0;have q0:(wr.alloc (.cells #[.int .i64 (l.1.rel:Int),.slice v1 l.1.terms.length v2,.bool l.2] 279)).cell? ⟨w.heap.size,l.1.rel,none⟩=some (.int .i64 ((vals.getD l.1.rel 0:Nat):Int)):=by rw [hg4.cell];exact Fu (by omega)
     have l0:=hLc.cell 0;have l2:=hLc.cell 2;have kall:=ks.trans kL;have HC4:=AD (fun (W:World) (k:AA [] (wr.alloc (.cells #[.int .i64 (l.1.rel:Int),.slice v1 l.1.terms.length v2,.bool l.2] 279)) W)=>hcb4.keeps k);generalize vals.getD l.1.rel 0=V at *;have hshr:=gH V c.head.rel;have hand:=jX (a:=V >>> c.head.rel) (b:=1) (by rw [Nat.shiftRight_eq_div_pow];have:=Nat.div_le_self V (2 ^ c.head.rel);omega) (by omega);rw [gJ,hbit] at hand;have hhI:(c.head.rel:Int)<n:=(by omega);have hlI:(l.1.rel:Int)<n:=(by omega);generalize H8 n (Cf m.clauses) l.1.rel c.head.rel=hb at *;clear hdj hl hv1 hv2 hcr hLc hcb4 hg4 hbit;generalize hSR:V >>> c.head.rel=SR at *;cases hl2:l.2 with
     | false=>
      rw [hl2] at hmk d2 kL l0 l2 f0 q0 kall HC4;rw [Bool.false_and,Bool.false_or] at hmk;have Hmk:=AD hmk;clear hmk hl2;go_wp2_with fail
      go_quiet (fail)
      go_wp2_with fail
      go_roundw
      ·exact ⟨j+1,by simp,by omega,kall.trans (AA.drewN _ _ _),HC4.out _ (AA.drewN _ _ _),Hmk.out⟩
      ·simp only [intOf];omega
     | true=>
      rw [hl2] at hmk d2 kL l0 l2 f0 q0 kall HC4;rw [Bool.true_and] at hmk;cases hb with
      | false=>
       rw [Bool.false_or] at hmk;have Hmk:=AD hmk;have hand2:bits .and .i64 (SR:Int) 1=0:=hand;clear hand;clear hmk hl2;go_wp2_with fail
       go_quiet (fail)
       go_wp2_with fail
       go_roundw
       ·exact ⟨j+1,by simp,by omega,kall.trans (AA.drewN _ _ _),HC4.out _ (AA.drewN _ _ _),Hmk.out⟩
       ·simp only [intOf];omega
      | true=>
       rw [Bool.true_or,if_pos rfl] at hmk;have Hmk:=AD hmk;have hand2:bits .and .i64 (SR:Int) 1=1:=hand;clear hand;have kd:=((k1.trans kall).trans (AA.drewN [] _ 1));obtain ⟨_,b7,hlines,_⟩:=Hcl.out _ (k1.trans kall);have hl7:=hlines i g2 c Hc.out rfl;clear hmk hl2 hlines;go_wp2_with fail
       go_quiet (fail)
       go_wp2_with fail
       refine (hgu.out _ _).mono ?_;rintro e w3 ⟨rfl,rfl⟩;exact ⟨rfl,by rw [←Hmk.out];rfl,(k1.trans kall).trans (AA.drewN _ _ _)⟩
    ·have hjI:¬ (j:Int)<c.lits.length:=(by omega);have hdz:c.lits.drop j=[]:=Bq (by omega);rw [hdz] at hmk;have Hmk:Hid (EC (ET n (Cf m.clauses)) (m.clauses.drop (i+1))=R):=AD hmk;clear hmk hdz;go_wp2_with fail
     go_roundw
     ·exact ⟨i+1,by simp,by omega,ks,Hmk.out⟩
     ·simp only [intOf];omega
  ·have hiI:¬ (i:Int)<m.clauses.length:=(by omega);have hdz:m.clauses.drop i=[]:=Bq (by omega);rw [hdz,EC] at hres;have Hres:=AD hres;clear hres hdz;go_wp2_with fail
   go_end0
   exact ⟨by rw [←Hres.out];rfl,kw⟩
end
end Go.Proofs.YtgjomknpjigkhaaGreatDoor
