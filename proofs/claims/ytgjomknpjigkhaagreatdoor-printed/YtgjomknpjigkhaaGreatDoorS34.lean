import Derived.Test.YtgjomknpjigkhaaGreatDoorS33
import Derived.OrdersIn
import Derived.Shelf.LaysM
import Derived.Shelf.Strconv.Clone
namespace Go.Proofs.YtgjomknpjigkhaaGreatDoor
set_option maxRecDepth 100000
set_option maxHeartbeats 4000000
section
open Go.RowKit
theorem run_makeIntsE (w:World) (n:Nat) (hn:n≤1000):(Instr.makeSlice 40 (.int .i64 (n:Int)) (.int .i64 (n:Int))).run Tryz.prog w=.ok (.slice (some ⟨w.heap.size,0,none⟩) n n) (w.alloc (.cells (madeCells #[.int .i64 0] n) 3)):=by
 obtain ⟨i0,hi0,hz0,hz1,hz2⟩:=info_parts info3E
 have:=run_make (P:=Tryz.prog) w 40 3 i0 (.int .i64 0) Tryz.underlying40 hi0 hz0 .i64 .i64 n n (by omega) (by omega) (by rw [hz2];omega) (by omega)
 rw [this,hz1]
 simp [Value.cells]
theorem made_nats (n:Nat):madeCells #[.int .i64 0] n=natC (List.replicate n 0):=by
 apply Array.ext'
 rw [toList_madeCells_one (.int .i64 0) n]
 simp [natC]
def initV (i n:Nat):List Nat:=(List.range n).map fun j=>if j<i then 2 ^ j else 0
theorem initV_zero (n:Nat):initV 0 n=List.replicate n 0:=by
 apply List.ext_getElem?
 intro j
 simp [initV,List.getElem?_replicate]
 split <;> simp_all
theorem initV_len (i n:Nat):(initV i n).length=n:=by simp [initV]
theorem initV_get {i n j:Nat} (h:j<n):(initV i n).getD j 0=if j<i then 2 ^ j else 0:=by
 simp [initV,List.getD_eq_getElem?_getD,h]
theorem initV_set {i n:Nat} (h:i<n):(initV i n).set i (2 ^ i)=initV (i+1) n:=by
 apply List.ext_getElem?
 intro j
 rw [List.getElem?_set]
 by_cases e:i=j
 ·subst e
  rw [if_pos rfl]
  simp [h,initV]
 ·rw [if_neg e]
  by_cases hj:j<n
  ·simp only [initV,List.getElem?_map,List.getElem?_range hj,Option.map_some]
   congr 1
   by_cases h1:j<i
   ·rw [if_pos h1,if_pos (by omega)]
   ·rw [if_neg h1,if_neg (by omega)]
  ·rw [List.getElem?_eq_none (by rw [initV_len];omega),List.getElem?_eq_none (by rw [initV_len];omega)]
theorem initV_hang {E:Edges} {n:Nat}:HangI E n (initV n n):=by
 refine ⟨initV_len _ _,fun i hi=>?_⟩
 rw [initV_get hi,if_pos hi]
 refine ⟨Nat.pow_lt_pow_right (by omega) hi,Nat.testBit_two_pow_self,fun j hj=>?_⟩
 rw [Nat.testBit_two_pow] at hj
 have e:i=j:=by simpa using hj
 subst e
 exact .here _
theorem mean_names {w:World} {mb B:Nat} {m:Mean} (h:MeanAt w mb B m) {W:World} (k:Keeps [] w W):Calls Tryz.prog 254 #[.pointer (some ⟨B,3,none⟩)] W fun e w'=>e=.returned (.int .i64 (m.rels.length:Nat))∧w' = W:=by
 obtain ⟨tD,mD,sz,tN,mN,co,cl,ln,cvs,kvs,hV⟩:=h
 obtain ⟨aD,cD,hD⟩:=ownE_len hV.names.row
 have:=len_calls (w:=W) (B:=B) (o:=3) (ns:=m.rels.map Prod.fst) (a:=aD) (c:=cD) (by rw [(hV.cells.keeps k (by simp)).cell,←hD];rfl)
 rw [List.length_map] at this
 exact this
theorem hanging_calls {w:World} {mb B:Nat} {m:Mean} (hm:MeanAt w mb B m) (hok:MeanOk m):Calls Tryz.prog 201 #[.pointer (some ⟨B,0,none⟩)] w fun e w'=>(∃ vals,e=.returned (.slice (some ⟨w.heap.size,0,none⟩) m.rels.length m.rels.length)∧CellsAt w' w.heap.size (natC vals)∧vals.length=m.rels.length∧(∀ i,vals.getD i 0<64)∧∀ a b,a<m.rels.length→(vals.getD a 0).testBit b=hangB m.rels.length (edgesM m.clauses) a b)∧Keeps [] w w':=by
 have hlen:=hide (fun (W:World) (k:Keeps [] w W)=>mean_names hm k)
 have hn6:=hok.rels
 have hBl:=mean_lt hm
 have H:=hang_ok (cs:=m.clauses) hok.inR
 have h64:∀ vals,HangI (edgesM m.clauses) m.rels.length vals→∀ i,vals.getD i 0<64:=fun vals h i=>by
  rcases Nat.lt_or_ge i m.rels.length with q | q
  ·have h1:=(h.2 i q).1
   have h2:(2:Nat) ^ m.rels.length≤2 ^ 6:=Nat.pow_le_pow_right (by omega) hn6
   omega
  ·rw [List.getD_eq_getElem?_getD,List.getElem?_eq_none (by rw [h.1];exact q)]
   decide
 have hspr:=hide (fun (W:World) (k:Keeps [] w W) (hS:Spr W W w.heap.size (w.heap.size+1) m.rels.length m.rels.length (HangI (edgesM m.clauses) m.rels.length) (initV m.rels.length m.rels.length))=>spread256_calls hm k (Nat.le_refl _) (by omega) H h64 hok.clauses hok.lits hS)
 have H64:=hide h64
 have Hrel:=hide hok.inR
 have hmk:=run_makeIntsE w m.rels.length (by omega)
 rw [made_nats] at hmk
 have kA:=Keeps.alloc [] w (.cells (natC (List.replicate m.rels.length 0)) 3)
 have hg0:=CellsAt.new w (natC (List.replicate m.rels.length 0)) 3
 have kC:=Keeps.alloc [] (w.alloc (.cells (natC (List.replicate m.rels.length 0)) 3)) (.cells #[.slice (some ⟨w.heap.size,0,none⟩) m.rels.length m.rels.length] 40)
 have hC0:=CellsAt.new (w.alloc (.cells (natC (List.replicate m.rels.length 0)) 3)) #[.slice (some ⟨w.heap.size,0,none⟩) m.rels.length m.rels.length] 40
 rw [sizeE_alloc] at hC0
 have hg1:=hg0.keeps kC (by simp)
 have Hz:=hide (initV_zero m.rels.length)
 have Hg1:=hide hg1
 have HC0:=hide hC0
 have kAC:=kA.trans kC
 clear hm hok H h64 hg0 hg1 hC0 kA kC
 generalize hnn:m.rels.length=n at *
 clear hnn
 generalize hO:Obj.cells (natC (List.replicate n 0)) 3=ob at *
 go_enter Tryz.func201,Tryz.ntmps201
 go_wp2_with fail
 refine (hlen.out _ (Keeps.refl [] w)).mono ?_
 rintro e w1 ⟨rfl,rfl⟩
 go_wp2_with fail
 go_loopw [12] (fun x wr=>∃ i:Nat,x=.int .i64 i∧i≤n∧CellsAt wr w1.heap.size (natC (initV i n))∧CellsAt wr (w1.heap.size+1) #[.slice (some ⟨w1.heap.size,0,none⟩) n n]∧Keeps [] w1 wr) (fun x _=>n - (intOf x).toNat)
 case atStart=>exact ⟨0,rfl,by omega,by rw [Hz.out];exact Hg1.out,HC0.out,kAC⟩
 case round=>
  clear hmk hlen kAC Hg1 HC0
  obtain ⟨i,rfl,hil,hg,hC,kr⟩:=hrel
  have c0:=hC.cell 0
  have hCl:=hC.lt
  by_cases hlt:i<n
  ·have hiI:(i:Int)<n:=by omega
   have g0:wr.cell? ⟨w1.heap.size,i,none⟩=some (.int .i64 (((initV i n).getD i 0:Nat):Int)):=by rw [hg.cell];exact natC_at (by rw [initV_len];exact hlt)
   have f0:=hg.frozen i
   have hsh:=shl_val (p:=i) (by omega)
   have hgN:=hg.setCell i (.int .i64 ((2 ^ i:Nat):Int))
   rw [natC_set,initV_set hlt] at hgN
   have hCN:=hC.keeps (Keeps.setCell wr ⟨w1.heap.size,i,none⟩ (.int .i64 ((2 ^ i:Nat):Int))) (by simp)
   have kN:Keeps [] w1 (wr.setCell ⟨w1.heap.size,i,none⟩ (.int .i64 ((2 ^ i:Nat):Int))):=kr.trans_new (Keeps.setCell wr ⟨w1.heap.size,i,none⟩ _) (by simp)
   generalize hP2:(2:Nat) ^ i=P2 at *
   have Hg:=hide (hgN.keeps (Keeps.drew [] _) (by simp))
   have HC:=hide (hCN.keeps (Keeps.drew [] _) (by simp))
   have Hk:=hide (kN.trans (Keeps.drew [] _))
   clear hgN hCN kN hg hC
   go_wp2_with fail
   go_region_law (fail)
   all_goals
    go_wp2_with fail
    go_roundw
    ·exact ⟨i+1,by simp,by omega,Hg.out,HC.out,Hk.out⟩
    ·simp only [intOf];omega
  ·have hiI:¬ (i:Int)<n:=by omega
   have e:i=n:=by omega
   subst e
   have hS:Spr wr wr w1.heap.size (w1.heap.size+1) i i (HangI (edgesM m.clauses) i) (initV i i):=⟨hg,hC,initV_hang,Keeps.refl _ _⟩
   have hcall:=hide (hspr.out wr kr hS)
   clear hspr hS hg
   go_wp2_with fail
   refine hcall.out.mono ?_
   rintro e w2 ⟨rfl,vals,hS2,hst⟩
   have c2:=hS2.cap.cell 0
   have k2:Keeps [] w1 w2:=kr.trans_new hS2.keep (by simp)
   have HS2:=hide hS2
   have Hst:=hide hst
   clear hS2 hst
   go_wp2_with fail
   go_ret
   exact ⟨⟨vals,rfl,HS2.out.row,HS2.out.inv.1,H64.out vals HS2.out.inv,fun a b ha=>hang_done Hrel.out HS2.out.inv Hst.out ha⟩,k2⟩
end
section
open Go.RowKit
def openCnt (listed:Array Bool):Nat:=(listed.toList.filter (fun b=>!b)).length
theorem openCnt_set {listed:Array Bool} {i:Nat} (h:listed.getD i true=false):openCnt (listed.setIfInBounds i true)+1=openCnt listed:=by
 have hi:i<listed.size:=by
  rcases Nat.lt_or_ge i listed.size with q | q
  ·exact q
  ·simp [Array.getD,Nat.not_lt.2 q] at h
 have hv:listed.toList[i]?=some false:=by
  simp [Array.getD,hi] at h
  simp [hi,h]
 unfold openCnt
 rw [Array.toList_setIfInBounds]
 generalize listed.toList=l at *
 clear h hi
 induction l generalizing i with
 | nil=>simp at hv
 | cons b l ih=>
  cases i with
  | zero=>simp at hv;subst hv;simp
  | succ i=>
   have:=ih (i:=i) (by simpa using hv)
   simp only [List.set_cons_succ,List.filter_cons]
   split
   ·simp only [List.length_cons];omega
   ·exact this
theorem ready_spec {md:Region.Mode} {ops:Array Oper} {listed:Array Bool} {i:Nat} (h:i∈Region.ready md ops listed):i<ops.size∧listed.getD i true=false∧∀ o,ops[i]?=some o→∀ e∈o.after,Region.binds md e=true→listed.getD e.on false=true:=by
 simp only [Region.ready,List.mem_filter,List.mem_range,Bool.and_eq_true,Bool.not_eq_true'] at h
 refine ⟨h.1,h.2.1,fun o ho e he hb=>?_⟩
 have h2:=h.2.2
 rw [ho] at h2
 simp only [Option.map_some,Option.getD_some,Array.all_eq_true_iff_forall_mem] at h2
 have:=h2 e he
 rw [hb] at this
 simpa using this
section
variable {n l:Nat} {P:Program} {ops:Array Oper} {Q:Exit→Act→World→Prop} {md:Region.Mode}
theorem wpAnyIn_inv {F:Fence} {S:Array Bool→Act→World→Prop} (hstep:∀ listed a w i,S listed a w→i∈Region.ready md ops listed→wpOpIn F n P ops Q i (S (listed.setIfInBounds i true)) a w) (hend:∀ listed a w,S listed a w→Region.ready md ops listed=[]→Q .normal a w):∀ fuel listed a w,openCnt listed≤fuel→S listed a w→wpAnyIn F n P md ops Q fuel listed a w:=by
 intro fuel
 induction fuel with
 | zero=>
  intro listed a w h hS
  have hr:Region.ready md ops listed=[]:=by
   rw [List.eq_nil_iff_forall_not_mem]
   intro i hi
   have:=openCnt_set (ready_spec hi).2.1
   omega
  exact ⟨hr,hend _ _ _ hS hr⟩
 | succ fuel ih=>
  intro listed a w h hS
  refine ⟨fun hr=>hend _ _ _ hS hr,fun i hi=>wpOpIn_mono (fun a w=>ih _ a w ?_) (hstep _ _ _ _ hS hi)⟩
  have:=openCnt_set (ready_spec hi).2.1
  omega
theorem wpIn_region_inv {F:Fence} {id:Nat} {a:Act} {w:World} {S:Array Bool→Act→World→Prop} (hm:P.follows .mixedOrders=true) (h0:S (Array.replicate ops.size false) a w.drew) (hstep:∀ listed a w i,S listed a w→i∈Region.ready .any ops listed→wpOpIn F n P ops Q i (S (listed.setIfInBounds i true)) a w) (hend:∀ listed a w,S listed a w→Region.ready .any ops listed=[]→Q .normal a w):(Code.region id ops true).wpIn F n P Q a w:=
 wpIn_region_any hm (wpAnyIn_inv hstep hend _ _ _ _ (by simp [openCnt]) h0)
theorem opIn {i:Nat} {o:Oper} {K:Act→World→Prop} {a:Act} {w:World} (ho:ops[i]?=some o) (hg:o.guard=none) (hd:∀ c,o.op≠.defer c) (h:o.uponIn (Fence.wide.inRound l) n P a K Q ((execOp a.eval o).run P w)):wpOpIn (Fence.wide.inRound l) n P ops Q i K a w:=by
 unfold wpOpIn
 simp only [ho]
 have hw:Region.wanted o (yielded ops a.tmps)=true:=by simp [Region.wanted,hg]
 rw [if_pos hw]
 refine ⟨fun _ _=>trivial,?_⟩
 rw [Oper.semAt_eq _ _ _ hd]
 exact h
theorem opIn_val {i:Nat} {o:Oper} {K:Act→World→Prop} {a:Act} {w w':World} {v:Value} (ho:ops[i]?=some o) (hg:o.guard=none) (hd:∀ c,o.op≠.defer c) (hr:(execOp a.eval o).run P w=.ok (.value v) w') (h:K (a.put o.dst v) w'):wpOpIn (Fence.wide.inRound l) n P ops Q i K a w:=by
 refine opIn ho hg hd ?_
 rw [hr]
 exact h
theorem opIn_skip {i:Nat} {o:Oper} {K:Act→World→Prop} {a:Act} {w w':World} (ho:ops[i]?=some o) (hg:o.guard=none) (hd:∀ c,o.op≠.defer c) (hr:(execOp a.eval o).run P w=.ok .skip w') (h:K (a.put o.dst undef) w'):wpOpIn (Fence.wide.inRound l) n P ops Q i K a w:=by
 refine opIn ho hg hd ?_
 rw [hr]
 exact h
theorem opIn_call {i:Nat} {o:Oper} {K:Act→World→Prop} {a:Act} {w w':World} {f:Nat} {args:Array Value} {R:Ending→World→Prop} (ho:ops[i]?=some o) (hg:o.guard=none) (hd:∀ c,o.op≠.defer c) (hr:(execOp a.eval o).run P w=.ok (.enter f args) w') (hc:Calls P f args w' R) (h:∀ e w'',R e w''→∃ v,e=.returned v∧K (a.put o.dst v) w''):wpOpIn (Fence.wide.inRound l) n P ops Q i K a w:=by
 refine opIn ho hg hd ?_
 rw [hr]
 refine ⟨fun h=>(nomatch h),CallsIn.inRound l ((callsIn_wide.2 hc).mono ?_)⟩
 intro e w'' he
 obtain ⟨v,rfl,hk⟩:=h e w'' he
 exact hk
end
theorem put_eval {a:Act} {d j:Nat} {v:Value} (h:j≠d):(a.put (some d) v).eval (.tmp j)=a.eval (.tmp j):=by
 simp only [Act.put,Act.eval,Array.getD_eq_getD_getElem?,Array.getElem?_setIfInBounds]
 rw [if_neg (fun e=>h e.symm)]
theorem put_eval_same {a:Act} {d:Nat} {v:Value} (h:d<a.tmps.size):(a.put (some d) v).eval (.tmp d)=v:=by
 simp [Act.put,Act.eval,Array.getD_eq_getD_getElem?,h]
theorem put_size {a:Act} {d:Option Nat} {v:Value}:(a.put d v).tmps.size=a.tmps.size:=by
 cases d <;> simp [Act.put]
theorem put_defers {a:Act} {d:Option Nat} {v:Value}:(a.put d v).defers=a.defers:=by
 cases d <;> simp [Act.put]
end
section
open Go.RowKit
def laysM316_ren:Go.Shelf.Ren:=⟨fun | 316=>258 | n=>n,fun | 9=>9 | 3=>3 | 4=>4 | 37=>120 | 0=>0 | 127=>208 | 5=>5 | n=>n,fun | n=>n⟩
theorem laysM316:Go.Proofs.LaysM.n316 Tryz.prog laysM316_ren:={
 mixed:=by kernel_rfl
 f316:=Tryz.func258.trans (congrArg some (by kernel_rfl))
 t0:=Tryz.underlying0
 a0:=Tryz.isAgg0
 z0:=Tryz.sizeOf0
 v0:=Tryz.zeroValue0
 t3:=Tryz.underlying3
 a3:=Tryz.isAgg3
 z3:=Tryz.sizeOf3
 v3:=Tryz.zeroValue3
 t4:=Tryz.underlying4
 a4:=Tryz.isAgg4
 z4:=Tryz.sizeOf4
 v4:=Tryz.zeroValue4
 t9:=Tryz.underlying9
 a9:=Tryz.isAgg9
 z9:=Tryz.sizeOf9
 v9:=Tryz.zeroValue9
 t37:=Tryz.underlying120
 a37:=Tryz.isAgg120
 z37:=Tryz.sizeOf120
 v37:=Tryz.zeroValue120
 t127:=Tryz.underlying208
 a127:=Tryz.isAgg208
 z127:=Tryz.sizeOf208
 v127:=Tryz.zeroValue208
 t5:=Tryz.underlying5
 a5:=Tryz.isAgg5
 z5:=Tryz.sizeOf5
 v5:=Tryz.zeroValue5
 i0:=by kernel_rfl
 i3:=by kernel_rfl
 i4:=by kernel_rfl
 i5:=by kernel_rfl
 i9:=by kernel_rfl
 i37:=by kernel_rfl
 i127:=by kernel_rfl }
open Go.RowKit in
theorem slClone (s:ByteArray) (w:World) (hlim:s.size≤281474976710656) :
  Calls Tryz.prog 258 #[.string s] w fun e w'=>e=.returned (.string s)∧Go.RowKit.Below w.heap.size w w':=Any.stringslite_Clone laysM316 s w hlim
theorem below_keeps {w w':World} (h:Go.RowKit.Below w.heap.size w w'):Keeps [] w w':=⟨h.os,h.tape,h.output,h.size,fun i hi _=>h.block i hi⟩
theorem clone203_calls {w:World} (s:ByteArray) (hs:s.size≤1000000):Calls Tryz.prog 203 #[.string s] w fun e w'=>e=.returned (.string s)∧Keeps [] w w':=by
 have hc:=hide (fun (w:World)=>slClone s w (by omega))
 go_enter Tryz.func203,Tryz.ntmps203
 go_wp2_with fail
 refine (hc.out _).mono ?_
 rintro e w' ⟨rfl,hb⟩
 have k:=below_keeps hb
 clear hb
 go_wp2_with fail
 go_ret
 exact ⟨rfl,k⟩
theorem layers_calls {w:World} {mb B:Nat} {m:Mean} (hm:MeanAt w mb B m) (hok:MeanOk m) (hnc:∀ c∈m.clauses,circleC m.rels.length (edgesM m.clauses) c=false):Calls Tryz.prog 202 #[.pointer (some ⟨B,0,none⟩)] w fun e w'=>(∃ vals,e=.returned (.slice (some ⟨w.heap.size,0,none⟩) m.rels.length m.rels.length)∧CellsAt w' w.heap.size (natC vals)∧LayI m.clauses m.rels.length vals∧StableG layG m.clauses vals)∧Keeps [] w w':=by
 have hlen:=hide (fun (W:World) (k:Keeps [] w W)=>mean_names hm k)
 have hn6:=hok.rels
 have hBl:=mean_lt hm
 have H:=lay_ok (cs:=m.clauses) hok.inR hnc
 have h64:∀ vals,LayI m.clauses m.rels.length vals→∀ i,vals.getD i 0<64:=fun vals h i=>by
  rcases Nat.lt_or_ge i m.rels.length with q | q
  ·have h1:=h.2.1 i q
   have h2:=cnt_le m.rels.length (hangB m.rels.length (edgesM m.clauses) i)
   unfold reachCnt at h1
   omega
  ·rw [List.getD_eq_getElem?_getD,List.getElem?_eq_none (by rw [h.1];exact q)]
   decide
 have hspr:=hide (fun (W:World) (k:Keeps [] w W) (hS:Spr W W w.heap.size (w.heap.size+1) m.rels.length m.rels.length (LayI m.clauses m.rels.length) (List.replicate m.rels.length 0))=>spread257_calls hm k (Nat.le_refl _) (by omega) H h64 hok.clauses hok.lits hS)
 have Hl0:=hide (lay_first (cs:=m.clauses) hok.inR)
 have hmk:=run_makeIntsE w m.rels.length (by omega)
 rw [made_nats] at hmk
 have kA:=Keeps.alloc [] w (.cells (natC (List.replicate m.rels.length 0)) 3)
 have hg0:=CellsAt.new w (natC (List.replicate m.rels.length 0)) 3
 have kC:=Keeps.alloc [] (w.alloc (.cells (natC (List.replicate m.rels.length 0)) 3)) (.cells #[.slice (some ⟨w.heap.size,0,none⟩) m.rels.length m.rels.length] 40)
 have hC0:=CellsAt.new (w.alloc (.cells (natC (List.replicate m.rels.length 0)) 3)) #[.slice (some ⟨w.heap.size,0,none⟩) m.rels.length m.rels.length] 40
 rw [sizeE_alloc] at hC0
 have hg1:=hg0.keeps kC (by simp)
 have c0:=hC0.cell 0
 have kAC:=kA.trans kC
 have hcall:=hide (hspr.out _ kAC ⟨hg1,hC0,Hl0.out,Keeps.refl _ _⟩)
 clear hm hok H h64 hg0 hg1 hC0 kA kC hspr hnc
 generalize hnn:m.rels.length=n at *
 clear hnn
 generalize hO:Obj.cells (natC (List.replicate n 0)) 3=ob at *
 go_enter Tryz.func202,Tryz.ntmps202
 go_wp2_with fail
 refine (hlen.out _ (Keeps.refl [] w)).mono ?_
 rintro e w1 ⟨rfl,rfl⟩
 go_wp2_with fail
 refine hcall.out.mono ?_
 rintro e w2 ⟨rfl,vals,hS2,hst⟩
 have c2:=hS2.cap.cell 0
 have k2:Keeps [] w1 w2:=kAC.trans_new hS2.keep (by simp)
 have HS2:=hide hS2
 have Hst:=hide hst
 clear hS2 hst
 go_wp2_with fail
 go_ret
 exact ⟨⟨vals,rfl,HS2.out.row,HS2.out.inv,Hst.out⟩,k2⟩
theorem sizesOf_calls {w:World} {mb B:Nat} {m:Mean} (hm:MeanAt w mb B m) (hok:MeanOk m) {r:Nat} {s:ByteArray} {ds:List Nat} (hrs:m.rels[r]?=some (s,ds)):Calls Tryz.prog 204 #[.pointer (some ⟨B,0,none⟩),.int .i64 (r:Int)] w fun e w'=>(∃ v,e=.returned v∧w'.ownsRow w.heap.size 3 1 v ds.length (intsV (ds.map m.size)))∧Keeps [] w w':=by
 obtain ⟨i0,hi0,hz0,hz1,hz2⟩:=info_parts info3E
 have hBl:=mean_lt hm
 obtain ⟨gc,cc,av,cv,hgl,hdg,hcols⟩:=mean_col hm hrs
 have hrl:r<m.rels.length:=by
  rcases Nat.lt_or_ge r m.rels.length with h | h
  ·exact h
  ·rw [List.getElem?_eq_none h] at hrs;cases hrs
 have hcl:=hok.cols _ (List.mem_of_getElem? hrs)
 have hds:=hcl.2
 have hl3:ds.length≤3:=hcl.1
 have hrI:(r:Int)<m.rels.length:=by omega
 obtain ⟨c5,cr,_⟩:=hcols (Keeps.refl [] w)
 have Hcols:=hide (fun (W:World) (k:Keeps [] w W)=>(hcols k).2.2)
 have Hdg:=hide hdg
 have Hds:=hide hds
 have Hsz:=hide (fun (d:Nat) (hd:d<m.doms.length)=>mean_size hm hd)
 have hd4:=hok.doms
 clear hm hcols hdg hds hcl hok
 go_enter Tryz.func204,Tryz.ntmps204
 go_wp2_with fail
 go_loopw [5,16] (fun y x wr=>∃ i:Nat,x=.int .i64 i∧i≤ds.length∧wr.ownsRow w.heap.size 3 1 y i (intsV ((ds.map m.size).take i))∧Keeps [] w wr∧w.heap.size≤wr.heap.size) (fun _ x _=>ds.length - (intOf x).toNat)
 case atStart=>exact ⟨0,rfl,by omega,World.ownsRow_nil ..,Keeps.refl [] w,Nat.le_refl _⟩
 case round=>
  clear c5 cr
  obtain ⟨i,rfl,hil,own,kr,hsz⟩:=hrel
  obtain ⟨ay,cy,rfl⟩:=ownE_len own
  by_cases hlt:i<ds.length
  ·obtain ⟨d,hd⟩:∃ d,ds[i]?=some d:=⟨_,List.getElem?_eq_getElem hlt⟩
   obtain ⟨gd,hgd,hgdl⟩:=Hdg.out d (List.mem_of_getElem? hd)
   subst hgd
   have q0:=Hcols.out wr kr i d gd hd rfl
   have hdl:=Hds.out d (List.mem_of_getElem? hd)
   obtain ⟨gk,ck,hgk,_,hsc⟩:=Hsz.out d hdl
   obtain ⟨b2,n2⟩:=hsc kr
   have hiI:(i:Int)<ds.length:=by omega
   have hdI:(d:Int)<m.doms.length:=by omega
   have hsr:=kr.size
   have kB:=Keeps.alloc [] wr (.cells #[.int .i64 (m.size d)] 3)
   have ownB:=ownsRow_kept own kB (by simp)
   have Htake:Hid ((ds.map m.size).take (i+1)=(ds.map m.size).take i++[m.size d]):=hide (by rw [List.take_add_one,List.getElem?_map,hd];rfl)
   clear hsc hd
   go_wp2_with (at_builtin;refine wpList_append_own_at _ rfl _ _ 40 rfl w.heap.size 3 i0 (.int .i64 0) 1 8 Tryz.underlying40 hi0 hz0 hz1 hz2 rfl (by decide) _ i (intsV ((ds.map m.size).take i)) rfl ownB ⟨wr.heap.size,0,none⟩ 1 1 [.int .i64 (m.size d)] rfl (by simp) int_one (by simp [Value.oneCell']) (by unfold maxLen;omega) (by omega) (by rw [sizeE_alloc];omega) ?_)
   intro v' W2 own4 grow4 nil4 at4
   have k4:=grownBy_keeps' grow4 (Value.slice ay i cy).ownBlock.toList (fun r e=>.inl (by simp [e]))
   have kf:Keeps [] w W2:=(kr.trans kB).trans_new k4 fun j hj=>.inr (ownE_base own j (by simpa using hj)).1
   have Hown:=hide own4
   clear own4 grow4 nil4 at4 ownB own
   go_wp2_with fail
   go_roundw
   ·exact ⟨i+1,by simp,by omega,by rw [Htake.out,intsV,List.map_append];exact Hown.out,kf,kf.size⟩
   ·simp only [intOf];omega
  ·have hiI:¬ (i:Int)<ds.length:=by omega
   have e:i=ds.length:=by omega
   subst e
   rw [List.take_of_length_le (by rw [List.length_map];omega)] at own
   have Hown:=hide own
   clear own
   go_wp2_with fail
   go_ret
   exact ⟨⟨_,rfl,Hown.out⟩,kr⟩
end
section
open Go.RowKit
theorem all_calls {w:World} {B:Nat} {a:Option Addr} {n c:Nat} (hc:w.cell? ⟨B,3,none⟩=some (.slice a n c)):Calls Tryz.prog 76 #[.pointer (some ⟨B,3,none⟩)] w fun e w'=>e=.returned (.func (.func 222) #[] #[.pointer (some ⟨w.heap.size,0,none⟩)])∧w' = w.alloc (.cells #[.slice a n c] 35):=by
 go_enter Tryz.func76,Tryz.ntmps76
 go_wp2
 go_ret
 exact ⟨rfl,rfl⟩
def eP (x:Nat×ByteArray):Array Value:=#[.int .i64 (x.1:Int),.string x.2]
def NthOf (ns:List ByteArray) (pre:List (Nat×ByteArray)) (x:Nat×ByteArray):Prop:=x.1=pre.length∧ns[pre.length]?=some x.2
def AllNth (ns:List ByteArray) (xs:List (Nat×ByteArray)):Prop:=xs.length=ns.length
theorem all_iter {w:World} {p g c:Nat} {ns:List ByteArray} {a:Option Addr} (hp0:CellsAt w p #[.slice a ns.length c]) (ha:∀ s∈ns,a=some ⟨g,0,none⟩∧g<w.heap.size) (hg:∀ {W:World},(∀ i,i=g→W.heap[i]?=w.heap[i]?)→∀ (i:Nat) (s:ByteArray),ns[i]?=some s→W.cell? ⟨g,i,none⟩=some (.string s)) (hl:ns.length≤1000000) (T:List Nat) (hT:∀ t∈T,t<w.heap.size∧t≠p∧(ns≠[]→t≠g)) :
  IterG 222 #[.pointer (some ⟨p,0,none⟩)] eP (NthOf ns) (AllNth ns) T w:=by
 intro n l J W hl' hlW hb hJ hY h0
 have hp:=hp0.of_heap (w':=W) (hb.block p hp0.lt)
 have c0:=hp.cell 0
 simp at c0
 have HY:=hide hY
 have HJ:=hide hJ
 have Hg:=hide (fun (W:World) (h:∀ i,i=g→W.heap[i]?=w.heap[i]?)=>hg h)
 have Ha:=hide ha
 have HT:=hide hT
 have Hb:=hide hb
 clear hY hJ hg ha hT hb
 refine callsIn_of_wp Tryz.func222 rfl trivial ?_ rfl
 simp only [Tryz.ntmps222,List.size_toArray,List.length_cons,List.length_nil,Nat.reduceAdd,Nat.reduceSub,Array.replicate_succ,Array.replicate_zero,List.push_toArray,List.append_toArray,List.nil_append,List.cons_append]
 gi_wp2_with fail
 gi_loopw [7] (fun x wr=>∃ (i:Nat) (xs:List (Nat×ByteArray)),x=.int .i64 i∧i=xs.length∧i≤ns.length∧J xs wr∧Grows w.heap.size (l :: T) W wr) (fun x _=>ns.length - (intOf x).toNat)
 case atStart=>exact ⟨0,[],rfl,rfl,by omega,h0,(Keeps.refl [] W).grows (by simp)⟩
 case round=>
  obtain ⟨i,xs,rfl,hix,hil,hJs,hgr⟩:=hrel
  clear c0 h0
  have Hix:=hide hix
  clear hix
  by_cases hlt:i<ns.length
  ·obtain ⟨s,hs⟩:∃ s,ns[i]?=some s:=⟨_,List.getElem?_eq_getElem hlt⟩
   obtain ⟨hag,hgl⟩:=Ha.out s (List.mem_of_getElem? hs)
   subst hag
   have hne:ns≠[]:=by intro e;rw [e] at hlt;simp at hlt
   have hcell:=Hg.out wr (fun j hj=>by
    subst hj
    refine (hgr.block j (Nat.lt_of_lt_of_le hgl Hb.out.size) (fun q=>?_) (.inl hgl)).trans (Hb.out.block j hgl)
    rcases List.mem_cons.1 q with q | q
    ·omega
    ·exact (HT.out j q).2.2 hne rfl) i s hs
   have hiI:(i:Int)<ns.length:=by omega
   obtain ⟨fn,tmps,assign,body,hy,hR⟩:=HY.out xs (i,s) wr hJs ⟨Hix.out,by rw [←Hix.out];exact hs⟩
   simp only [eP] at hy
   clear hs
   gi_wp2_with fail
   refine ⟨fun h=>(nomatch h),?_⟩
   refine hR.mono ?_
   rintro e W3 ⟨rfl,hJ3,g3⟩
   have hg3:Grows w.heap.size (l :: T) W W3:=hgr.trans g3
   gi_wp2_with fail
   refine ⟨⟨i+1,xs++[(i,s)],by simp,by rw [List.length_append,List.length_singleton,←Hix.out],by omega,hJ3,hg3⟩,?_⟩
   simp only [intOf];omega
  ·have hiI:¬ (i:Int)<ns.length:=by omega
   gi_wp2_with fail
   go_end0
   exact ⟨⟨_,rfl⟩,xs,by have:=Hix.out;unfold AllNth;omega,hJs,hgr⟩
end
section
open Go.RowKit
theorem listed_set {listed:Array Bool} {i j:Nat} (h:(listed.setIfInBounds i true).getD j false=true):j=i∨listed.getD j false=true:=by
 by_cases e:j=i
 ·exact .inl e
 ·right
  rw [←h,Array.getD_eq_getD_getElem?,Array.getD_eq_getD_getElem?,Array.getElem?_setIfInBounds,if_neg (fun q=>e q.symm)]
theorem listed_keep {listed:Array Bool} {i j:Nat} (h:j≠i):(listed.setIfInBounds i true).getD j false=listed.getD j false:=by
 rw [Array.getD_eq_getD_getElem?,Array.getD_eq_getD_getElem?,Array.getElem?_setIfInBounds,if_neg (fun q=>h q.symm)]
def DepClosed (md:Region.Mode) (ops:Array Oper) (listed:Array Bool):Prop:=∀ j,listed.getD j false=true→∀ o,ops[j]?=some o→∀ e∈o.after,Region.binds md e=true→listed.getD e.on false=true
theorem replicate_no (n j:Nat):(Array.replicate n false).getD j false=false:=by
 rw [Array.getD_eq_getD_getElem?,Array.getElem?_replicate]
 split <;> rfl
theorem listed_more {listed:Array Bool} {i j:Nat} (h:listed.getD j false=true):(listed.setIfInBounds i true).getD j false=true:=by
 by_cases e:j=i
 ·subst e
  have hj:j<listed.size:=by
   rcases Nat.lt_or_ge j listed.size with q | q
   ·exact q
   ·simp [Array.getD,Nat.not_lt.2 q] at h
  rw [Array.getD_eq_getD_getElem?,Array.getElem?_setIfInBounds,if_pos rfl,if_pos hj]
  rfl
 ·rw [listed_keep e];exact h
def earlier (ops:Array Oper):Bool:=(List.range ops.size).all fun i=>((ops[i]?).map fun o=>o.after.all fun e=>decide (e.on<i)).getD true
theorem ready_nil {md:Region.Mode} {ops:Array Oper} {listed:Array Bool} (hb:earlier ops=true) (hsz:listed.size=ops.size) (h:Region.ready md ops listed=[]):∀ i,i<ops.size→listed.getD i false=true:=by
 intro i
 induction i using Nat.strongRecOn with
 | ind i ih=>
  intro hi
  have hi':i<listed.size:=by omega
  rcases hv:listed.getD i false with _ | _
  ·exfalso
   have hm:i∈Region.ready md ops listed:=by
    simp only [Region.ready,List.mem_filter,List.mem_range,Bool.and_eq_true,Bool.not_eq_true']
    refine ⟨hi,?_,?_⟩
    ·simp [Array.getD,hi'] at hv ⊢;exact hv
    ·rw [Array.getElem?_eq_getElem hi]
     simp only [Option.map_some,Option.getD_some,Array.all_eq_true_iff_forall_mem,Bool.or_eq_true]
     intro e he
     right
     unfold earlier at hb
     rw [List.all_eq_true] at hb
     have h2:=hb i (List.mem_range.2 hi)
     rw [Array.getElem?_eq_getElem hi] at h2
     simp only [Option.map_some,Option.getD_some,Array.all_eq_true_iff_forall_mem,decide_eq_true_eq] at h2
     have h3:=h2 e he
     exact ih e.on h3 (by omega)
   rw [h] at hm
   cases hm
  ·rfl
theorem wpIn_region_flow {n:Nat} {P:Program} {ops:Array Oper} {Q:Exit→Act→World→Prop} {F:Fence} {id:Nat} {a:Act} {w:World} {S:Array Bool→Act→World→Prop} (hm:P.follows .mixedOrders=true) (hb:earlier ops=true) (h0:S (Array.replicate ops.size false) a w.drew) (hstep:∀ listed a w i,S listed a w→DepClosed .any ops listed→listed.size=ops.size→i<ops.size→listed.getD i false=false→(∀ o,ops[i]?=some o→∀ e∈o.after,Region.binds .any e=true→listed.getD e.on false=true)→wpOpIn F n P ops Q i (S (listed.setIfInBounds i true)) a w) (hend:∀ listed a w,S listed a w→(∀ i,i<ops.size→listed.getD i false=true)→Q .normal a w):(Code.region id ops true).wpIn F n P Q a w:=by
 refine wpIn_region_inv (S:=fun listed a w=>S listed a w∧DepClosed .any ops listed∧listed.size=ops.size) hm ⟨h0,fun j hj=>(by rw [replicate_no] at hj;cases hj),Array.size_replicate⟩ (fun listed a w i hS hi=>?_) (fun listed a w hS hr=>hend listed a w hS.1 (ready_nil hb hS.2.2 hr))
 obtain ⟨h1,h2,h3⟩:=ready_spec hi
 have h2':listed.getD i false=false:=by
  have hi':i<listed.size:=by rw [hS.2.2];exact h1
  simp [Array.getD,hi'] at h2 ⊢;exact h2
 refine wpOpIn_mono (fun a w h=>⟨h,?_,by rw [Array.size_setIfInBounds];exact hS.2.2⟩) (hstep listed a w i hS.1 hS.2.1 hS.2.2 h1 h2' h3)
 intro j hj o ho e he hb
 rcases listed_set hj with q | q
 ·subst q
  exact listed_more (h3 o ho e he hb)
 ·exact listed_more (hS.2.1 j q o ho e he hb)
structure Flow (base N:Nat) (φ:Nat→Value→World→Prop) (a0:Act) (W:World) (listed:Array Bool) (a:Act) (w:World):Prop where
 size:a.tmps.size=a0.tmps.size
 low:∀ j,j<base→a.eval (.tmp j)=a0.eval (.tmp j)
 dfr:a.defers=a0.defers
 keep:Keeps [] W w
 got:∀ j,j<N→listed.getD j false=true→φ j (a.eval (.tmp (base+j))) w
 room:listed.size=N+2
 more:listed.getD N false=false∧listed.getD (N+1) false=false
theorem Flow.put {base N:Nat} {φ:Nat→Value→World→Prop} {a0:Act} {W:World} {listed:Array Bool} {a:Act} {w w':World} {i:Nat} {v:Value} (h:Flow base N φ a0 W listed a w) (hs:∀ j v w w',φ j v w→Keeps [] w w'→φ j v w') (k:Keeps [] w w') (hi:i<N) (hb:base+N≤a0.tmps.size) (hv:φ i v w'):Flow base N φ a0 W (listed.setIfInBounds i true) (a.put (some (base+i)) v) w':=by
 refine ⟨by rw [put_size];exact h.size,fun j hj=>by rw [put_eval (by omega)];exact h.low j hj,by rw [put_defers];exact h.dfr,h.keep.trans k,fun j hj hl=>?_,by rw [Array.size_setIfInBounds];exact h.room,?_⟩
 ·by_cases e:j=i
  ·subst e
   rw [put_eval_same (by rw [h.size];omega)]
   exact hv
  ·rw [put_eval (by omega)]
   rw [listed_keep e] at hl
   exact hs _ _ _ _ (h.got j hj hl) k
 ·rw [listed_keep (by omega),listed_keep (by omega)]
  exact h.more
structure RelM where
 name:ByteArray
 sizes:List Int
 layer:Nat
def RelVs (w:World) (base:Nat) (X:List Nat):List RelM→List Value→Prop
 | [],vs=>vs=[]
 | r :: rs,vs=>∃ v rest,vs=[.string r.name,v,.int .i64 (r.layer:Int)]++rest∧w.ownsRow base 3 1 v r.sizes.length (intsV r.sizes)∧(∀ j∈ownL v,j∉X)∧RelVs w base X rs rest
theorem RelVs.keeps {w w':World} {base:Nat} {X T:List Nat} {rs:List RelM} {vs:List Value} (h:RelVs w base X rs vs) (k:Keeps T w w') (hT:∀ j∈T,j∈X∨j<base∨w.heap.size≤j):RelVs w' base X rs vs:=by
 induction rs generalizing vs with
 | nil=>exact h
 | cons r rs ih=>
  obtain ⟨v,rest,h1,h2,h3,h4⟩:=h
  exact ⟨v,rest,h1,keepRow h2 h3 k hT,h3,ih h4⟩
theorem RelVs.apart {w:World} {base:Nat} {X Y:List Nat} {rs:List RelM} {vs:List Value} (h:RelVs w base X rs vs) (hY:∀ j∈Y,j∈X∨w.heap.size≤j):RelVs w base Y rs vs:=by
 induction rs generalizing vs with
 | nil=>exact h
 | cons r rs ih=>
  obtain ⟨v,rest,h1,h2,h3,h4⟩:=h
  exact ⟨v,rest,h1,h2,apartRow h2 h3 hY,ih h4⟩
theorem RelVs.snoc {w:World} {base:Nat} {X:List Nat} {rs:List RelM} {vs:List Value} (h:RelVs w base X rs vs) {r:RelM} {v:Value} (h2:w.ownsRow base 3 1 v r.sizes.length (intsV r.sizes)) (h3:∀ j∈ownL v,j∉X):RelVs w base X (rs++[r]) (vs++[.string r.name,v,.int .i64 (r.layer:Int)]):=by
 induction rs generalizing vs with
 | nil=>
  have e:vs=[]:=h
  subst e
  exact ⟨v,[],rfl,h2,h3,rfl⟩
 | cons x rs ih=>
  obtain ⟨u,rest,k1,k2,k3,k4⟩:=h
  exact ⟨u,rest++[.string r.name,v,.int .i64 (r.layer:Int)],by rw [k1];simp,k2,k3,ih k4⟩
theorem info144:(Tryz.prog.info? 144).map (fun i=>(i.zero,i.size,i.bytes))=some (some (.agg #[.string ⟨#[]⟩,.slice none 0 0,.int .i64 0]),3,48):=by kernel_rfl
def relφ (W:World) (B gL:Nat) (n i:Nat) (v:Value) (r:RelM):Nat→Value→World→Prop
 | 0,u,_=>u=v
 | 1,u,_=>u=.string r.name
 | 2,u,_=>u=.string r.name
 | 3,u,_=>u=.pointer (some ⟨B,0,none⟩)
 | 4,u,_=>u=.int .i64 (i:Int)
 | 5,u,w=>w.ownsRow W.heap.size 3 1 u r.sizes.length (intsV r.sizes)
 | 6,u,_=>u=.slice (some ⟨gL,0,none⟩) n n
 | 7,u,_=>u=.int .i64 (i:Int)
 | 8,u,_=>u=.pointer (some ⟨gL,i,none⟩)
 | 9,u,_=>u=.int .i64 (r.layer:Int)
 | 10,u,w=>∃ sv,u=.agg #[.string r.name,sv,.int .i64 (r.layer:Int)]∧w.ownsRow W.heap.size 3 1 sv r.sizes.length (intsV r.sizes)
 | 11,u,w=>∃ sv g,u=.slice (some ⟨g,0,none⟩) 1 1∧CellsAt w g #[.string r.name,sv,.int .i64 (r.layer:Int)]∧W.heap.size≤g∧w.ownsRow W.heap.size 3 1 sv r.sizes.length (intsV r.sizes)
 | _,_,_=>True
theorem relφ_keeps {W:World} {B gL n i:Nat} {v:Value} {r:RelM} (j:Nat) (u:Value) (w w':World) (h:relφ W B gL n i v r j u w) (k:Keeps [] w w'):relφ W B gL n i v r j u w':=by
 rcases j with _ | _ | _ | _ | _ | _ | _ | _ | _ | _ | _ | _ | j
 all_goals first
  | exact h
  | exact ownsRow_kept h k (by simp)
  | (obtain ⟨sv,h1,h2⟩:=h;exact ⟨sv,h1,ownsRow_kept h2 k (by simp)⟩)
  | (obtain ⟨sv,g,h1,h2,h3,h4⟩:=h;exact ⟨sv,g,h1,h2.keeps k (by simp),h3,ownsRow_kept h4 k (by simp)⟩)
end
end Go.Proofs.YtgjomknpjigkhaaGreatDoor
