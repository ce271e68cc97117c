import Derived.Test.YtgjomknpjigkhaaGreatDoorS20
import Derived.Test.YtgjomknpjigkhaaGreatDoorS13
import Derived.Deep.DeepCutAuto
namespace Go.Proofs.YtgjomknpjigkhaaGreatDoor
set_option maxRecDepth 100000
set_option maxHeartbeats 4000000
section
open Go.RowKit
theorem run_call {o : Oper} {a : Act} {w : World} (f : Nat) (xs : Array Operand) (tys : Array TypeId) (hop : o.op = .call { callee := .value (.func f), args := xs, argTypes := tys }) (fn : Func) (hf : Tryz.prog.funcs[f]? = some fn) (hname : (fn.name == "runtime.NumGoroutine") = false) (hbody : fn.body.isNone = false) (vs : List Value) (hx : xs.toList.map a.eval = vs) : (execOp a.eval o).run Tryz.prog w = .ok (.enter f vs.toArray) w := by
 have hx':xs.map a.eval=vs.toArray:=by subst hx;apply Array.ext';rw [Array.toList_map]
 have h1:a.eval (.func f)=.func (.func f) #[] #[]:=rfl
 have hn' : ¬ fn.name = "runtime.NumGoroutine" := by simpa using hname
 have hb':¬ fn.body=none:=by intro e;rw [e] at hbody;cases hbody
 simp only [execOp,hop,resolve,hx',h1,Deferred.ofValue,invoke,callFunc]
 simp [hf]
 rw [if_neg hn',if_neg hb']
theorem step_callA {ops : Array Oper} {o : Oper} {a : Act} {w : World} {K : Act → World → Prop} {Q : Exit → Act → World → Prop} {E : Prop} (hg : o.guard = none) (f : Nat) (xs : Array Operand) (tys : Array TypeId) (hop : o.op = .call { callee := .value (.func f), args := xs, argTypes := tys }) (fn : Func) (hf : Tryz.prog.funcs[f]? = some fn) (hname : (fn.name == "runtime.NumGoroutine") = false) (hbody : fn.body.isNone = false) (vs : List Value) (hx : xs.toList.map a.eval = vs)
  (h:Calls Tryz.prog f vs.toArray w fun
   | .returned v,w''=>K (a.put o.dst v) w''
   | .panicked chain,w''=>Q (.panic chain) a w''
   | .outgrown,_=>LetsOut Q):if Region.wanted o (yielded ops a.tmps)=true then Oper.wp Tryz.prog o a w K Q else E:=by
 have hw:Region.wanted o (yielded ops a.tmps)=true:=by simp [Region.wanted,hg]
 rw [if_pos hw]
 unfold Oper.wp
 rw [run_call f xs tys hop fn hf hname hbody vs hx]
 exact h
theorem step_dies {ops : Array Oper} {o : Oper} {a : Act} {w : World} {K : Act → World → Prop} {Q : Exit → Act → World → Prop} {E : Prop} (hg : o.guard = none) (f : Nat) (xs : Array Operand) (tys : Array TypeId) (hop : o.op = .call { callee := .value (.func f), args := xs, argTypes := tys }) (fn : Func) (hf : Tryz.prog.funcs[f]? = some fn) (hname : (fn.name == "runtime.NumGoroutine") = false) (hbody : fn.body.isNone = false) (vs : List Value) (hx : xs.toList.map a.eval = vs)
  (h:Calls Tryz.prog f vs.toArray w fun
   | .returned _,_=>False
   | .panicked chain,w''=>Q (.panic chain) a w''
   | .outgrown,_=>LetsOut Q) (_:Hid False→K (a.put o.dst undef) w):if Region.wanted o (yielded ops a.tmps)=true then Oper.wp Tryz.prog o a w K Q else E:=by
 refine step_callA hg f xs tys hop fn hf hname hbody vs hx (h.mono ?_)
 intro e w' he
 cases e <;> first | exact he | exact he.elim
def AddTo (base B:Nat) (r:Except Flt Mean) (e:Ending) (w':World):Prop:=match r with
 | .ok m=>e=.returned (.tuple #[])∧MeanAt w' base B m
 | .error f=>e=gaveUp f.1 f.2
theorem dom_many {w:World} {base B:Nat} {m:Mean} (h:MeanAt w base B m) (n z:Tn) (h4:m.doms.length=4):Calls Tryz.prog 334 #[.agg #[.string (kindOf n.g),.string (txt n.g),.int .i64 n.line,.string (kindOf z.g),.string (txt z.g),.int .i64 z.line],.pointer (some ⟨B,0,none⟩)] w fun e w'=>e=gaveUp 6 n.line∧Keeps [] w w':=by
 obtain ⟨tD,mD,sz,tN,mN,co,cl,ln,cvs,kvs,hV⟩:=h
 have kA:=Keeps.alloc [] w (.cells #[.string (kindOf n.g),.string (txt n.g),.int .i64 n.line,.string (kindOf z.g),.string (txt z.g),.int .i64 z.line] 321)
 obtain ⟨aD,cD,hD⟩:=ownE_len hV.doms.row
 have hlen:=hide (fun (w':World) (k:Keeps [] w w')=>len_calls (w:=w') (B:=B) (o:=0) (ns:=m.doms.map Prod.fst) (a:=aD) (c:=cD) (by rw [(hV.cells.keeps k (by simp)).cell,←hD];rfl))
 have hBl:=hV.cells.lt
 rw [List.length_map,h4] at hlen
 have hno:=hide (fun (w:World)=>refuse_yes (w:=w) n 6)
 clear hV
 go_enter Tryz.func334,Tryz.ntmps334
 go_wp2_with fail
 go_region_law (first
  | (refine step_callA rfl 254 _ _ rfl _ Tryz.func254 (by kernel_rfl) (by kernel_rfl) [.pointer (some ⟨B,0,none⟩)] rfl ?_
     refine (hlen.out _ (kA.trans (Keeps.drew _ _))).mono ?_
     rintro e w1 ⟨rfl,rfl⟩)
  | (refine step_dies rfl 335 _ _ rfl _ Tryz.func335 (by kernel_rfl) (by kernel_rfl) [tokV n,.bool true,.int .i64 6] rfl ?_ ?_
     ·refine (hno.out _).mono ?_
      rintro e w1 ⟨rfl,rfl⟩
      exact ⟨rfl,rfl,(kA.trans (Keeps.drew _ _)).trans (Keeps.alloc [] _ _)⟩
     intro hf))
 all_goals exact (hf.out).elim
theorem dom_taken {w:World} {base B:Nat} {m:Mean} (h:MeanAt w base B m) (n z:Tn) (h4:¬ m.doms.length=4) (ht:m.taken (txt n.g)=true):Calls Tryz.prog 334 #[.agg #[.string (kindOf n.g),.string (txt n.g),.int .i64 n.line,.string (kindOf z.g),.string (txt z.g),.int .i64 z.line],.pointer (some ⟨B,0,none⟩)] w fun e w'=>e=gaveUp 7 n.line∧Keeps [] w w':=by
 obtain ⟨tD,mD,sz,tN,mN,co,cl,ln,cvs,kvs,hV⟩:=h
 have kA:=Keeps.alloc [] w (.cells #[.string (kindOf n.g),.string (txt n.g),.int .i64 n.line,.string (kindOf z.g),.string (txt z.g),.int .i64 z.line] 321)
 have hA:=CellsAt.new w #[.string (kindOf n.g),.string (txt n.g),.int .i64 n.line,.string (kindOf z.g),.string (txt z.g),.int .i64 z.line] 321
 obtain ⟨aD,cD,hD⟩:=ownE_len hV.doms.row
 have hlen:=hide (fun (w':World) (k:Keeps [] w w')=>len_calls (w:=w') (B:=B) (o:=0) (ns:=m.doms.map Prod.fst) (a:=aD) (c:=cD) (by rw [(hV.cells.keeps k (by simp)).cell,←hD];rfl))
 have htk:=hide (fun (w':World) (k:Keeps [] w w')=>taken_calls (hV.cells.keeps k (by simp)) rfl rfl ((hV.keeps k (by simp)).doms) ((hV.keeps k (by simp)).names) (txt n.g))
 rw [placeIn_names,placeIn_names] at htk
 change (_ || _)=true at ht
 have ht':((placeIn m.doms (txt n.g)).isSome || (placeIn m.rels (txt n.g)).isSome)=true:=ht
 rw [ht'] at htk
 have hBl:=hV.cells.lt
 rw [List.length_map] at hlen
 have h4I:(((m.doms.length:Nat):Int) == 4)=false:=by rw [beq_eq_false_iff_ne];omega
 have hno:=hide (fun (w:World)=>refuse_no (w:=w) n 6)
 have hyes:=hide (fun (w:World)=>refuse_yes (w:=w) n 7)
 clear hV ht ht'
 go_enter Tryz.func334,Tryz.ntmps334
 go_upto_region 1 with fail
 go_cut [] (fun wc=>Keeps [] w wc∧CellsAt wc w.heap.size #[.string (kindOf n.g),.string (txt n.g),.int .i64 n.line,.string (kindOf z.g),.string (txt z.g),.int .i64 z.line])
 case first=>
  go_region_law (first
   | (refine step_callA rfl 254 _ _ rfl _ Tryz.func254 (by kernel_rfl) (by kernel_rfl) [.pointer (some ⟨B,0,none⟩)] rfl ?_
      refine (hlen.out _ (kA.trans (Keeps.drew _ _))).mono ?_
      rintro e w1 ⟨rfl,rfl⟩)
   | (refine step_callA rfl 335 _ _ rfl _ Tryz.func335 (by kernel_rfl) (by kernel_rfl) [tokV n,.bool false,.int .i64 6] rfl ?_
      refine (hno.out _).mono ?_
      rintro e w1 ⟨rfl,rfl⟩))
  all_goals
   go_wp2_with fail
   go_meet
   exact ⟨(kA.trans (Keeps.drew _ _)).trans (Keeps.alloc [] _ _),(hA.keeps (Keeps.drew [] _) (by simp)).keeps (Keeps.alloc [] _ _) (by simp)⟩
 case rest=>
  obtain ⟨k1,hA1⟩:=hcut
  have d0:=hA1.cell 0
  have d1:=hA1.cell 1
  have d2:=hA1.cell 2
  go_wp2_with fail
  go_region_law (first
   | (refine step_callA rfl 336 _ _ rfl _ Tryz.func336 (by kernel_rfl) (by kernel_rfl) [.pointer (some ⟨B,0,none⟩),.string (txt n.g)] rfl ?_
      refine (htk.out _ (k1.trans (Keeps.drew _ _))).mono ?_
      rintro e w1 ⟨rfl,rfl⟩)
   | (refine step_dies rfl 335 _ _ rfl _ Tryz.func335 (by kernel_rfl) (by kernel_rfl) [tokV n,.bool true,.int .i64 7] rfl ?_ ?_
      ·refine (hyes.out _).mono ?_
       rintro e w1 ⟨rfl,rfl⟩
       exact ⟨rfl,rfl,(k1.trans (Keeps.drew _ _)).trans (Keeps.alloc [] _ _)⟩
      intro hf))
  all_goals exact (hf.out).elim
end
section
open Go.RowKit Go.Shelf
attribute [local go_sem] Oper.semAt_some
theorem rvars_calls (w:World) (gr o n:Nat) (sa:Option Addr) (cc:Nat) (hn:n≤100) (h0:w.cell? ⟨gr,o,none⟩=some (.slice sa n cc)):Calls Tryz.prog 80 #[.pointer (some ⟨gr,o,none⟩)] w fun e w'=>e=.returned (.int .i64 ((3 * n:Nat):Int))∧w' = w:=by
 go_enter Tryz.func80,Tryz.ntmps80
 go_wp2
 go_ret
 exact ⟨by simp,rfl⟩
theorem add_in {w:World} {B:SB} {S:ST} (hE:EngS w B S) {bb gr o rm n cc:Nat} {sa:Option Addr} {cs:Array Value} {tu x rank:Int} {L:List (Int×Int)} {T X:List Nat→Prop} (hb:BsAt w bb B) (hc:CellsAt w gr cs) (c0:cs[o]?=some (.slice sa n cc)) (c3:cs[o+3]?=some (.int .i64 tu)) (c4:cs[o+4]?=some (.map (some rm))) (hm:MapIs eI eI w rm L)
  (n3:n≤3) (ht:Rep S tu n T) (hx:Rep S x n X) (hg:gr∉B.own) (hr:rm∉B.own) (hgr:gr≠rm) (hgb:bb≠gr) (hrb:bb≠rm) (hl:S.next+4095<lim) :
  CallsIn Fence.wide 0 Tryz.prog 261 #[.pointer (some ⟨bb,0,none⟩),.pointer (some ⟨gr,o,none⟩),.int .i64 x,.int .i64 rank] w fun e w'=>e=.returned (.tuple #[])∧∃ r S' L',EngS w' B S'∧CellsAt w' gr (cs.setIfInBounds (o+3) (.int .i64 r))∧MapIs eI eI w' rm L'∧Keeps (gr :: rm :: B.own) w w'∧Ext S S'∧S'.next≤S.next+4095∧Rep S' r n (fun l=>T l∨X l)∧∀ y:Nat,get L' (y:Int)=if y∈S'.trues x (3 * n) then some rank else get L (y:Int):=by
 have kA:=Keeps.alloc [] w (.cells #[.pointer (some ⟨gr,o,none⟩)] 155)
 have hA:=CellsAt.new w #[.pointer (some ⟨gr,o,none⟩)] 155
 have zA:=sizeE_alloc w (.cells #[.pointer (some ⟨gr,o,none⟩)] 155)
 generalize hWA:w.alloc (.cells #[.pointer (some ⟨gr,o,none⟩)] 155)=WA at kA hA zA
 have kB:=Keeps.alloc [] WA (.cells #[.int .i64 rank] 3)
 have hB:=CellsAt.new WA #[.int .i64 rank] 3
 have zB:=sizeE_alloc WA (.cells #[.int .i64 rank] 3)
 rw [zA] at hB zB
 generalize hWB:WA.alloc (.cells #[.int .i64 rank] 3)=WB at kB hB zB
 have kk:=kA.trans kB
 have hAB:=hA.keeps kB (by simp)
 have hcB:=hc.keeps kk (by simp)
 have hbB:=hb.keeps kk (by simp)
 have hEB:=hE.keeps0 kk
 have hmB:=hm.kept kk (by simp)
 have hlt:=hc.lt
 have hrt:=hm.lt
 have hor:=hide (fun (W:World) (k:Keeps [] WB W)=>or_E (hEB.keeps0 k) (f:=tu) (g:=x) ⟨ht.1,ht.2⟩ ⟨hx.1,hx.2⟩ hl)
 refine callsIn_of_wp_marks Tryz.func261 rfl trivial ?_ rfl
 simp only [Tryz.ntmps261,List.size_toArray,List.length_cons,List.length_nil,Nat.reduceAdd,Nat.reduceSub,Array.replicate_succ,Array.replicate_zero,List.push_toArray,List.append_toArray,List.nil_append,List.cons_append]
 have g0:=hbB.cell
 have g1:=hAB.cell 0
 have g3:WB.cell? ⟨gr,o+3,none⟩=some (.int .i64 tu):=by rw [hcB.cell];exact c3
 simp at g1
 refine wpIn_wide.2 ?_
 have h1c:=hide (fun (W1:World) (k1:Keeps B.own WB.drew W1)=>And.intro (((hAB.keeps (Keeps.drew [] WB) (by simp)).keeps k1 (hE.sat.fresh (Nat.le_refl _))).cell 0) (And.intro (show W1.cell? ⟨gr,o+3,none⟩=some (.int .i64 tu) by rw [((hcB.keeps (Keeps.drew [] WB) (by simp)).keeps k1 hg).cell];exact c3) (((hcB.keeps (Keeps.drew [] WB) (by simp)).keeps k1 hg).frozen (o+3))))
 go_upto_region 1 with fail
 go_cut [] from 9 to 22 (fun wc=>∃ (r:Int) (S1:ST) (W1:World),EngS W1 B S1∧Keeps B.own WB.drew W1∧Ext S S1∧S1.next≤S.next+4095∧RepB S1 r (fun σ=>T (tupF σ 0 n)∨X (tupF σ 0 n))∧wc=W1.setCell ⟨gr,o+3,none⟩ (.int .i64 r))
 case first=>
  refine wp_region_noPanic ?_
  go_region_law (refine step_callA rfl 73 _ _ rfl _ Tryz.func73 (by kernel_rfl) (by kernel_rfl) [.pointer (some ⟨B.b,0,none⟩),.int .i64 tu,.int .i64 x] rfl ?_
                 refine (hor.out _ (Keeps.drew [] _)).mono ?_
                 rintro e W1 ⟨r,S1,rfl,hE1,k1,x1,n1,hr1⟩
                 obtain ⟨q0,q3,f3⟩:=h1c.out W1 k1
                 simp at q0)
  all_goals
   refine NoPanic.normal ?_
   go_wp2_with fail
   go_meet
   exact ⟨r,S1,W1,hE1,k1,x1,n1,hr1,rfl⟩
 case rest=>
  obtain ⟨r,S1,W1,hE1,k1,x1,n1,hr1,rfl⟩:=hcut
  have hc1:=(hcB.keeps (Keeps.drew [] WB) (by simp)).keeps k1 hg
  have hcS:=hc1.setCell (o+3) (.int .i64 r)
  have kS:=Keeps.setCell W1 ⟨gr,o+3,none⟩ (.int .i64 r)
  have zS:(W1.setCell ⟨gr,o+3,none⟩ (.int .i64 r)).heap.size=W1.heap.size:=by simp
  have hneS:∀ j,j≠gr→j∉[gr]:=fun j hj=>by simpa using hj
  have hES:=hE1.keeps kS (fun j hj=>hneS j (fun e=>hg (e ▸ hj)))
  have hbS:=((hbB.keeps (Keeps.drew [] WB) (by simp)).own k1).keeps kS (hneS _ hgb)
  have hzw:w.heap.size∉B.own:=hE.sat.fresh (Nat.le_refl _)
  have hzw1:w.heap.size+1∉B.own:=hE.sat.fresh (by omega)
  have hAS:=((hAB.keeps (Keeps.drew [] WB) (by simp)).keeps k1 hzw).keeps kS (hneS _ (by omega))
  have hBS:=((hB.keeps (Keeps.drew [] WB) (by simp)).keeps k1 hzw1).keeps kS (hneS _ (by omega))
  have hmS:=((hmB.kept (Keeps.drew [] WB) (by simp)).kept k1 hr).kept kS (hneS _ (Ne.symm hgr))
  have kw:Keeps (gr :: B.own) w (W1.setCell ⟨gr,o+3,none⟩ (.int .i64 r)):=(((kk.trans (Keeps.drew [] WB)).mono (by simp)).trans (k1.mono (fun j hj=>List.mem_cons_of_mem _ hj))).trans (kS.mono (by simp))
  generalize W1.setCell ⟨gr,o+3,none⟩ (.int .i64 r)=WS at *
  have p0:WS.cell? ⟨gr,o,none⟩=some (.slice sa n cc):=by rw [hcS.cell,Array.getElem?_setIfInBounds,if_neg (by omega)];exact c0
  have p4:WS.cell? ⟨gr,o+4,none⟩=some (.map (some rm)):=by rw [hcS.cell,Array.getElem?_setIfInBounds,if_neg (by omega)];exact c4
  have gS:=hbS.cell
  have aS:=hAS.cell 0
  simp at aS
  have hv:=hide (rvars_calls WS.drew gr o n sa cc (by omega) p0)
  have hHk:=hx.hk
  have hk9:3 * n≤9:=by omega
  generalize hk3:3 * n=k at hv hHk hk9 ⊢
  clear g0 g1 g3 hor h1c
  go_wp2_with fail
  refine wp_quietV 7 (by kernel_rfl) (by kernel_rfl) ?_
  simp only [List.take_succ_cons,List.take_zero,List.drop_succ_cons,List.drop_zero]
  repeat (first | go_big_quiet_step (fail) | (go_big_quiet_want;go_big_quiet_op;apply Exists.intro;refine And.intro (hv.out) ?_;go_big_quiet_on))
  refine wpQuiet_nil ?_
  go_wp2_with fail
  refine (trues_calls _ _ _ _).mono ?_
  rintro e W2 ⟨rfl,rfl⟩
  go_wp2_with fail
  have kp:=Keeps.alloc [] WS (.cells #[.pointer (some ⟨B.b,0,none⟩)] 135)
  have hp:=CellsAt.new WS #[.pointer (some ⟨B.b,0,none⟩)] 135
  have kq:=Keeps.alloc [] (WS.alloc (.cells #[.pointer (some ⟨B.b,0,none⟩)] 135)) (.cells #[.int .i64 x] 3)
  have hq:=CellsAt.new (WS.alloc (.cells #[.pointer (some ⟨B.b,0,none⟩)] 135)) #[.int .i64 x] 3
  have ku:=Keeps.alloc [] ((WS.alloc (.cells #[.pointer (some ⟨B.b,0,none⟩)] 135)).alloc (.cells #[.int .i64 x] 3)) (.cells #[.int .i64 (k:Int)] 3)
  have hu:=CellsAt.new ((WS.alloc (.cells #[.pointer (some ⟨B.b,0,none⟩)] 135)).alloc (.cells #[.int .i64 x] 3)) #[.int .i64 (k:Int)] 3
  simp only [World.size_alloc,zS] at hp hq hu
  have kd:=Keeps.drew [] (((WS.alloc (.cells #[.pointer (some ⟨B.b,0,none⟩)] 135)).alloc (.cells #[.int .i64 x] 3)).alloc (.cells #[.int .i64 (k:Int)] 3))
  have k4:=((kp.trans kq).trans ku).trans kd
  have hp4:=((hp.keeps kq (by simp)).keeps ku (by simp)).keeps kd (by simp)
  have hq4:=(hq.keeps ku (by simp)).keeps kd (by simp)
  have hu4:=hu.keeps kd (by simp)
  have z4:((((WS.alloc (.cells #[.pointer (some ⟨B.b,0,none⟩)] 135)).alloc (.cells #[.int .i64 x] 3)).alloc (.cells #[.int .i64 (k:Int)] 3)).drew).heap.size=W1.heap.size+1+1+1:=by simp [zS]
  have hz1:w.heap.size+1<W1.heap.size:=by have:=k1.size;have:WB.drew.heap.size=WB.heap.size:=rfl;omega
  have hgl:gr<W1.heap.size:=by omega
  have hrl:rm<W1.heap.size:=by omega
  clear kp kq ku kd hp hq hu
  generalize (((WS.alloc (.cells #[.pointer (some ⟨B.b,0,none⟩)] 135)).alloc (.cells #[.int .i64 x] 3)).alloc (.cells #[.int .i64 (k:Int)] 3)).drew=W4 at *
  have hE4:=hES.keeps0 k4
  have hit:=trues_iter hE4.sat hE4.wf hE4.idn hE4.ho hE4.n hE4.co (W1.heap.size) (W1.heap.size+1) (W1.heap.size+1+1) x k hp4 hq4 hu4 (x1.ok hx.1) (hHk.ext x1 hE.wf hE1.wf hx.1) hk9 [rm] (by
   intro t ht
   simp only [List.mem_singleton] at ht
   subst ht
   exact ⟨by omega,hr⟩)
  have hA4:=hAS.keeps k4 (by simp)
  have hB4:=hBS.keeps k4 (by simp)
  have hm4:=hmS.kept k4 (by simp)
  have hc4:=hcS.keeps k4 (by simp)
  refine (wpIn_wide (n:=0)).1 ?_
  refine range_law (gf:=153) (lb:=#[.pointer (some ⟨W1.heap.size,0,none⟩),.pointer (some ⟨W1.heap.size+1,0,none⟩),.pointer (some ⟨W1.heap.size+1+1,0,none⟩)]) rfl (enters_of Tryz.func153 (by kernel_rfl) rfl) (T:=[rm]) (by simp;omega) hit (fun _=>rfl)
   (fun pre W=>CellsAt W w.heap.size #[.pointer (some ⟨gr,o,none⟩)]∧CellsAt W (w.heap.size+1) #[.int .i64 rank]∧CellsAt W gr (cs.setIfInBounds (o+3) (.int .i64 r))∧∃ L',MapIs eI eI W rm L'∧∀ y:Nat,get L' (y:Int)=if y∈pre then some rank else get L (y:Int))
   (fun pre W1 W2 h hb=>⟨h.1.of_heap (hb.block _ (by omega)),h.2.1.of_heap (hb.block _ (by omega)),h.2.2.1.of_heap (hb.block _ (by omega)),let ⟨L',h1,h2⟩:=h.2.2.2;⟨L',h1.of_heap (hb.block _ (by omega)),h2⟩⟩) ⟨hA4,hB4,hc4,L,hm4,fun y=>by simp⟩
   (fun y a' W=>a' = { tmps:=#[.pointer (some ⟨bb,0,none⟩),.pointer (some ⟨gr,o,none⟩),.int .i64 x,.int .i64 rank,undef,.pointer (some ⟨w.heap.size,0,none⟩),undef,.pointer (some ⟨w.heap.size+1,0,none⟩),.int .i64 (y:Nat),u9,u10,u11,u12,u13,u14,u15,u16,u17,u18,u19,u20,u21,.pointer (some ⟨bb,0,none⟩),.pointer (some ⟨bb,0,none⟩),.pointer (some ⟨bb,4,none⟩),.pointer (some ⟨B.b,0,none⟩),.int .i64 x,.pointer (some ⟨gr,o,none⟩),.int .i64 (k:Int),.func (.func 153) #[] #[.pointer (some ⟨W1.heap.size,0,none⟩),.pointer (some ⟨W1.heap.size+1,0,none⟩),.pointer (some ⟨W1.heap.size+1+1,0,none⟩)],.int .i64 (y:Nat),undef,undef,undef,undef,undef,undef],defers:=[] }) (fun x a' W1 W2 h _=>h) ?assign ?body ?done
  case assign=>
   intro l pre y W K hlt hi hc hK
   gi_wp2
   exact hK _ _ (by simp [eA]) (Keeps.refl _ _)
  case body=>
   rintro l pre y a' W hlt ⟨i1,i2,i3,L',i4,i5⟩ hc rfl
   have d0:=i1.cell 0
   have d1:=i2.cell 0
   have d2:W.cell? ⟨gr,o+4,none⟩=some (.map (some rm)):=by rw [i3.cell,Array.getElem?_setIfInBounds,if_neg (by omega)];exact c4
   simp at d0 d1
   have hmd:MapIs eI eI W.drew rm L':=i4.of_heap rfl
   obtain ⟨ob,hrun,hm5⟩:=run_upd (P:=Tryz.prog) Tryz.underlying146 key3 hmd (y:Int) rank
   simp only [eI] at hrun
   have hfol:Tryz.prog.follows .mixedOrders=true:=by kernel_rfl
   have kb:=(Keeps.drew [rm] W).trans (Keeps.blk W.drew rm ob)
   have Hfin:Hid (∀ a',bodyPostJ (fun W=>CellsAt W w.heap.size #[.pointer (some ⟨gr,o,none⟩)]∧CellsAt W (w.heap.size+1) #[.int .i64 rank]∧CellsAt W gr (cs.setIfInBounds (o+3) (.int .i64 r))∧∃ L',MapIs eI eI W rm L'∧∀ z:Nat,get L' (z:Int)=if z∈pre++[y] then some rank else get L (z:Int)) [rm] W .normal a' (blk W.drew rm ob)):=by
    intro a'
    refine ⟨⟨i1.keeps kb (by simp;omega),i2.keeps kb (by simp;omega),i3.keeps kb (by simpa using hgr),_,hm5,fun z=>?_⟩,kb⟩
    rw [get_put]
    by_cases e:z=y
    ·subst e;simp
    ·rw [if_neg (by omega),i5];simp [e]
   clear i5 hm5 i1 i2 i3 i4 kb hmd
   dsimp only
   gi_wp2
   refine wpIn_mono (Q:=NoP _) ?_ NoP.out
   gi_region_with_o (fail)
   all_goals
    refine NoP.normal ?_
    exact Hfin.out { tmps:=#[],defers:=[] }
  case done=>
   rintro xs W rfl ⟨i1,i2,i3,L',i4,i5⟩ hk hlt hD
   have kP:=Keeps.putObj W W4.heap.size (.deferred none)
   have kWw:Keeps (gr :: rm :: B.own) w (W.putObj W4.heap.size (.deferred none)):=by
    refine ((((kw.trans (k4.mono (by simp))).mono (fun j hj=>?_)).trans (hk.mono (fun j hj=>?_))).trans_new kP (fun j hj=>?_))
    ·rcases List.mem_cons.1 hj with rfl | h
     ·simp
     ·simp [h]
    ·simp only [List.mem_singleton] at hj;subst hj;simp
    ·simp only [List.mem_singleton] at hj;exact .inr (by omega)
   have hEW:=(hE4.keeps hk (fun j hj hm=>hr (by simp only [List.mem_singleton] at hm;rw [←hm];exact hj))).keeps kP (fun j hj hm=>by simp only [List.mem_singleton] at hm;have:=hE4.sat.lt j hj;omega)
   have hcW:=i3.keeps kP (by simp;omega)
   have hmW:=i4.kept kP (by simp;omega)
   go_wp2_with fail
   refine ⟨by simp,.inl ⟨_,_,rfl,run_takeDeferred hD,?_⟩⟩
   refine ⟨_,results_none rfl _ _ _,rfl,r,S1,L',hEW,hcW,hmW,kWw,x1,n1,hr1,fun y=>?_⟩
   rw [i5,hk3]
theorem badd_calls {w:World} {B:SB} {S:ST} (hE:EngS w B S) {bb gr o rm n cc:Nat} {sa:Option Addr} {cs:Array Value} {tu x rank:Int} {L:List (Int×Int)} {T X:List Nat→Prop} (hb:BsAt w bb B) (hc:CellsAt w gr cs) (c0:cs[o]?=some (.slice sa n cc)) (c3:cs[o+3]?=some (.int .i64 tu)) (c4:cs[o+4]?=some (.map (some rm))) (hm:MapIs eI eI w rm L)
  (n3:n≤3) (ht:Rep S tu n T) (hx:Rep S x n X) (hg:gr∉B.own) (hr:rm∉B.own) (hgr:gr≠rm) (hgb:bb≠gr) (hrb:bb≠rm) (hl:S.next+4095<lim) :
  Calls Tryz.prog 261 #[.pointer (some ⟨bb,0,none⟩),.pointer (some ⟨gr,o,none⟩),.int .i64 x,.int .i64 rank] w fun e w'=>e=.returned (.tuple #[])∧∃ r S' L',EngS w' B S'∧CellsAt w' gr (cs.setIfInBounds (o+3) (.int .i64 r))∧MapIs eI eI w' rm L'∧Keeps (gr :: rm :: B.own) w w'∧Ext S S'∧S'.next≤S.next+4095∧Rep S' r n (fun l=>T l∨X l)∧∀ y:Nat,get L' (y:Int)=if y∈S'.trues x (3 * n) then some rank else get L (y:Int):=
 callsIn_wide.1 (add_in hE hb hc c0 c3 c4 hm n3 ht hx hg hr hgr hgb hrb hl)
end
section
open Go.RowKit
structure RelX where
 sa:Option Addr
 n:Nat
 cc:Nat
 layer:Nat
 fa:Int
 tu:Int
 rm:Nat
 L:List (Int×Int)
structure RelC (cs:Array Value) (o:Nat) (r:RelX):Prop where
 c0:cs[o]?=some (.slice r.sa r.n r.cc)
 c1:cs[o+1]?=some (.int .i64 (r.layer:Int))
 c2:cs[o+2]?=some (.int .i64 r.fa)
 c3:cs[o+3]?=some (.int .i64 r.tu)
 c4:cs[o+4]?=some (.map (some r.rm))
def RelsC (cs:Array Value) (rs:List RelX):Prop:=∀ (i:Nat) (r:RelX),rs[i]?=some r→RelC cs (i * 5) r
theorem RelC.other {cs:Array Value} {o:Nat} {r:RelX} (h:RelC cs o r) {j:Nat} {v:Value} (hj:j<o∨o+5≤j):RelC (cs.setIfInBounds j v) o r:=by
 constructor <;> rw [Array.getElem?_setIfInBounds,if_neg (by omega)]
 ·exact h.c0
 ·exact h.c1
 ·exact h.c2
 ·exact h.c3
 ·exact h.c4
theorem RelC.setTu {cs:Array Value} {o:Nat} {r:RelX} (h:RelC cs o r) (t:Int):RelC (cs.setIfInBounds (o+3) (.int .i64 t)) o { r with tu:=t }:=by
 have hs:o+3<cs.size:=(Array.getElem?_eq_some_iff.1 h.c3).1
 constructor
 ·rw [Array.getElem?_setIfInBounds,if_neg (by omega)];exact h.c0
 ·rw [Array.getElem?_setIfInBounds,if_neg (by omega)];exact h.c1
 ·rw [Array.getElem?_setIfInBounds,if_neg (by omega)];exact h.c2
 ·rw [Array.getElem?_setIfInBounds,if_pos rfl,if_pos hs]
 ·rw [Array.getElem?_setIfInBounds,if_neg (by omega)];exact h.c4
theorem RelC.setFa {cs:Array Value} {o:Nat} {r:RelX} (h:RelC cs o r) (t:Int):RelC (cs.setIfInBounds (o+2) (.int .i64 t)) o { r with fa:=t }:=by
 have hs:o+2<cs.size:=(Array.getElem?_eq_some_iff.1 h.c2).1
 constructor
 ·rw [Array.getElem?_setIfInBounds,if_neg (by omega)];exact h.c0
 ·rw [Array.getElem?_setIfInBounds,if_neg (by omega)];exact h.c1
 ·rw [Array.getElem?_setIfInBounds,if_pos rfl,if_pos hs]
 ·rw [Array.getElem?_setIfInBounds,if_neg (by omega)];exact h.c3
 ·rw [Array.getElem?_setIfInBounds,if_neg (by omega)];exact h.c4
theorem RelC.mapL {cs:Array Value} {o:Nat} {r:RelX} (h:RelC cs o r) (L:List (Int×Int)):RelC cs o { r with L:=L }:=⟨h.c0,h.c1,h.c2,h.c3,h.c4⟩
theorem RelsC.set {cs cs':Array Value} {rs:List RelX} {i:Nat} {r:RelX} (h:RelsC cs rs) (hr:RelC cs' (i * 5) r) (ho:∀ (j:Nat) (q:RelX),j≠i→RelC cs (j * 5) q→RelC cs' (j * 5) q):RelsC cs' (rs.set i r):=fun j q hj=>by
 rw [List.getElem?_set] at hj
 by_cases e:i=j
 ·subst e
  split at hj
  ·split at hj
   ·cases hj;exact hr
   ·cases hj
  ·omega
 ·rw [if_neg e] at hj
  exact ho j q (Ne.symm e) (h j q hj)
structure Bse (w:World) (bb:Nat) (B:SB) (S:ST) (gr cr:Nat) (rs:List RelX) (x0 x1 x3:Value):Prop where
 cells:CellsAt w bb #[x0,x1,.slice (some ⟨gr,0,none⟩) rs.length cr,x3,.pointer (some ⟨B.b,0,none⟩)]
 eng:EngS w B S
 rel:∃ cs,CellsAt w gr cs∧RelsC cs rs
 maps:∀ r∈rs,MapIs eI eI w r.rm r.L
 bbB:bb∉B.own
 grB:gr∉B.own
 rmB:∀ r∈rs,r.rm∉B.own
 bbgr:bb≠gr
 bbrm:∀ r∈rs,bb≠r.rm
 grrm:∀ r∈rs,gr≠r.rm
 nodup:(rs.map (·.rm)).Nodup
 few:rs.length≤6
 cols:∀ r∈rs,r.n≤3
def ftp (B:SB) (gr:Nat) (rs:List RelX):List Nat:=gr :: (rs.map (·.rm)++B.own)
section
variable {w w':World} {bb gr cr:Nat} {B:SB} {S S':ST} {rs:List RelX} {x0 x1 x3:Value}
theorem Bse.bs (h:Bse w bb B S gr cr rs x0 x1 x3):BsAt w bb B:=⟨by have:=h.cells.cell 4;simpa using this,h.cells.lt,h.bbB⟩
theorem Bse.keeps0 (h:Bse w bb B S gr cr rs x0 x1 x3) (k:Keeps [] w w'):Bse w' bb B S gr cr rs x0 x1 x3:=
 ⟨h.cells.keeps k (by simp),h.eng.keeps0 k,let ⟨cs,h1,h2⟩:=h.rel;⟨cs,h1.keeps k (by simp),h2⟩,fun r hr=>(h.maps r hr).kept k (by simp),h.bbB,h.grB,h.rmB,h.bbgr,h.bbrm,h.grrm,h.nodup,h.few,h.cols⟩
theorem Bse.store (h:Bse w bb B S gr cr rs x0 x1 x3) (k:Keeps B.own w w') (hE:EngS w' B S'):Bse w' bb B S' gr cr rs x0 x1 x3:=
 ⟨h.cells.keeps k h.bbB,hE,let ⟨cs,h1,h2⟩:=h.rel;⟨cs,h1.keeps k h.grB,h2⟩,fun r hr=>(h.maps r hr).kept k (h.rmB r hr),h.bbB,h.grB,h.rmB,h.bbgr,h.bbrm,h.grrm,h.nodup,h.few,h.cols⟩
theorem set_rm {rs:List RelX} {i:Nat} {r r':RelX} (hi:rs[i]?=some r) (he:r'.rm=r.rm):(rs.set i r').map (·.rm)=rs.map (·.rm):=by
 apply List.ext_getElem?
 intro j
 rw [List.getElem?_map,List.getElem?_map,List.getElem?_set]
 by_cases e:i=j
 ·subst e
  have hl:=(List.getElem?_eq_some_iff.1 hi).1
  rw [if_pos rfl,if_pos hl,hi];simp [he]
 ·rw [if_neg e]
theorem ftp_set {i:Nat} {r r':RelX} (hi:rs[i]?=some r) (he:r'.rm=r.rm):ftp B gr (rs.set i r')=ftp B gr rs:=by unfold ftp;rw [set_rm hi he]
theorem mem_set {rs:List RelX} {i:Nat} {r' x:RelX} (h:x∈rs.set i r'):x=r'∨x∈rs:=by
 obtain ⟨j,hj,rfl⟩:=List.getElem_of_mem h
 rw [List.getElem_set]
 split
 ·exact .inl rfl
 ·exact .inr (List.getElem_mem _)
theorem Bse.turn (h:Bse w bb B S gr cr rs x0 x1 x3) {i:Nat} {r:RelX} (hi:rs[i]?=some r) {r':RelX} (hn:r'.n=r.n) (hm:r'.rm=r.rm) (k:Keeps (gr :: r.rm :: B.own) w w') (hE:EngS w' B S') {cs':Array Value} (hc:CellsAt w' gr cs') (hcs:RelsC cs' (rs.set i r')) (hmap:MapIs eI eI w' r.rm r'.L):Bse w' bb B S' gr cr (rs.set i r') x0 x1 x3:=by
 have hr:=List.mem_of_getElem? hi
 have hfar:∀ x∈rs,x.rm≠r.rm→x.rm∉gr :: r.rm :: B.own:=fun x hx hne hm=>by
  rcases List.mem_cons.1 hm with e | hm
  ·exact h.grrm x hx e.symm
  ·rcases List.mem_cons.1 hm with e | hm
   ·exact hne e
   ·exact h.rmB x hx hm
 have hbb:bb∉gr :: r.rm :: B.own:=not_cons h.bbgr (not_cons (h.bbrm r hr) h.bbB)
 refine ⟨by rw [List.length_set];exact h.cells.keeps k hbb,hE,⟨cs',hc,hcs⟩,fun x hx=>?_,h.bbB,h.grB,fun x hx=>?_,h.bbgr,fun x hx=>?_,fun x hx=>?_,by rw [set_rm hi hm];exact h.nodup,by rw [List.length_set];exact h.few,fun x hx=>?_⟩
 ·obtain ⟨j,hj,rfl⟩:=List.getElem_of_mem hx
  rw [List.getElem_set]
  split
  ·rw [hm];exact hmap
  ·rename_i hne
   rw [List.length_set] at hj
   refine (h.maps _ (List.getElem_mem hj)).kept k (hfar _ (List.getElem_mem hj) fun e=>hne ?_)
   have hl:=(List.getElem?_eq_some_iff.1 hi)
   have h1:(rs.map (·.rm))[i]?=some r.rm:=by rw [List.getElem?_map,hi];rfl
   have h2:(rs.map (·.rm))[j]?=some r.rm:=by rw [List.getElem?_map,List.getElem?_eq_getElem hj,←e];rfl
   exact (List.getElem?_inj (by simpa using hl.1) h.nodup).1 (h1.trans h2.symm)
 ·rcases mem_set hx with rfl | hx
  ·rw [hm];exact h.rmB r hr
  ·exact h.rmB x hx
 ·rcases mem_set hx with rfl | hx
  ·rw [hm];exact h.bbrm r hr
  ·exact h.bbrm x hx
 ·rcases mem_set hx with rfl | hx
  ·rw [hm];exact h.grrm r hr
  ·exact h.grrm x hx
 ·rcases mem_set hx with rfl | hx
  ·rw [hn];exact h.cols r hr
  ·exact h.cols x hx
theorem ftp_turn {i:Nat} {r:RelX} (hi:rs[i]?=some r) (k:Keeps (gr :: r.rm :: B.own) w w'):Keeps (ftp B gr rs) w w':=k.mono (fun j hj=>by
 have hr:=List.mem_of_getElem? hi
 rcases List.mem_cons.1 hj with rfl | hj
 ·simp [ftp]
 ·rcases List.mem_cons.1 hj with rfl | hj
  ·simp only [ftp,List.mem_cons,List.mem_append,List.mem_map];exact .inr (.inl ⟨r,hr,rfl⟩)
  ·simp [ftp,hj])
end
end
section
open Go.RowKit
structure RelS (S:ST) (r:RelX) (Fa:List Nat→Prop) (rk:List Nat→Option Nat):Prop where
 fa:Rep S r.fa r.n Fa
 tu:Rep S r.tu r.n (fun l=>(rk l).isSome=true)
 ranks:∀ l∈alls r.n,get r.L (asn l:Int)=(rk l).map (fun m:Nat=>(m:Int))
def AllS (S:ST) (rs:List RelX) (Fs:Nat→List Nat→Prop) (rks:Nat→List Nat→Option Nat):Prop:=∀ (i:Nat) (r:RelX),rs[i]?=some r→RelS S r (Fs i) (rks i)
open Classical in
noncomputable def addRk (rk:List Nat→Option Nat) (X:List Nat→Prop) (n:Nat):List Nat→Option Nat:=fun l=>if X l then some n else rk l
theorem Rep.ext {S S':ST} {f:Int} {c:Nat} {R:List Nat→Prop} (h:Rep S f c R) (x:Ext S S') (hw:WF S) (hw':WF S'):Rep S' f c R:=⟨x.ok h.1,fun σ=>by rw [x.den hw hw' h.1];exact h.2 σ⟩
theorem Rep.iff {S:ST} {f:Int} {c:Nat} {R R':List Nat→Prop} (h:Rep S f c R) (hi:∀ l∈alls c,(R l↔R' l)):Rep S f c R':=⟨h.1,fun σ=>by rw [h.2,hi _ (tupF_mem σ c 0)]⟩
theorem RelS.ext {S S':ST} {r:RelX} {Fa:List Nat→Prop} {rk:List Nat→Option Nat} (h:RelS S r Fa rk) (x:Ext S S') (hw:WF S) (hw':WF S'):RelS S' r Fa rk:=⟨h.fa.ext x hw hw',h.tu.ext x hw hw',h.ranks⟩
theorem AllS.ext {S S':ST} {rs:List RelX} {Fs:Nat→List Nat→Prop} {rks:Nat→List Nat→Option Nat} (h:AllS S rs Fs rks) (x:Ext S S') (hw:WF S) (hw':WF S'):AllS S' rs Fs rks:=fun i r hi=>(h i r hi).ext x hw hw'
def upR (rks:Nat→List Nat→Option Nat) (i:Nat) (rk:List Nat→Option Nat):Nat→List Nat→Option Nat:=fun j=>if j=i then rk else rks j
theorem AllS.set {S:ST} {rs:List RelX} {Fs:Nat→List Nat→Prop} {rks:Nat→List Nat→Option Nat} (h:AllS S rs Fs rks) {i:Nat} {r':RelX} {rk:List Nat→Option Nat} (hr:RelS S r' (Fs i) rk):AllS S (rs.set i r') Fs (upR rks i rk):=fun j q hj=>by
 rw [List.getElem?_set] at hj
 unfold upR
 by_cases e:i=j
 ·subst e
  rw [if_pos rfl] at hj ⊢
  split at hj
  ·cases hj;exact hr
  ·cases hj
 ·rw [if_neg e] at hj
  rw [if_neg (fun q=>e q.symm)]
  exact h j q hj
structure LikeR (r r':RelX):Prop where
 sa:r'.sa=r.sa
 n:r'.n=r.n
 cc:r'.cc=r.cc
 layer:r'.layer=r.layer
 fa:r'.fa=r.fa
 rm:r'.rm=r.rm
theorem LikeR.refl (r:RelX):LikeR r r:=⟨rfl,rfl,rfl,rfl,rfl,rfl⟩
theorem LikeR.trans {a b c:RelX} (h:LikeR a b) (k:LikeR b c):LikeR a c:=⟨k.sa.trans h.sa,k.n.trans h.n,k.cc.trans h.cc,k.layer.trans h.layer,k.fa.trans h.fa,k.rm.trans h.rm⟩
def LikeRs (rs rs':List RelX):Prop:=rs'.length=rs.length∧∀ (i:Nat) (r:RelX),rs[i]?=some r→∃ r',rs'[i]?=some r'∧LikeR r r'
theorem LikeRs.refl (rs:List RelX):LikeRs rs rs:=⟨rfl,fun _ r h=>⟨r,h,LikeR.refl r⟩⟩
theorem LikeRs.trans {a b c:List RelX} (h:LikeRs a b) (k:LikeRs b c):LikeRs a c:=⟨k.1.trans h.1,fun i r hi=>by
 obtain ⟨r1,h1,l1⟩:=h.2 i r hi
 obtain ⟨r2,h2,l2⟩:=k.2 i r1 h1
 exact ⟨r2,h2,l1.trans l2⟩⟩
theorem LikeRs.set {rs:List RelX} {i:Nat} {r r':RelX} (hi:rs[i]?=some r) (h:LikeR r r'):LikeRs rs (rs.set i r'):=⟨by simp,fun j q hj=>by
 rw [List.getElem?_set]
 by_cases e:i=j
 ·subst e
  rw [hi] at hj;cases hj
  have hl:=(List.getElem?_eq_some_iff.1 hi).1
  exact ⟨r',by rw [if_pos rfl,if_pos hl],h⟩
 ·exact ⟨q,by rw [if_neg e];exact hj,LikeR.refl q⟩⟩
theorem LikeRs.ftp {B:SB} {gr:Nat} {rs rs':List RelX} (h:LikeRs rs rs'):ftp B gr rs' = ftp B gr rs:=by
 have e:rs'.map (·.rm)=rs.map (·.rm):=by
  apply List.ext_getElem?
  intro j
  rw [List.getElem?_map,List.getElem?_map]
  by_cases hj:j<rs.length
  ·obtain ⟨r',h1,h2⟩:=h.2 j _ (List.getElem?_eq_getElem hj)
   rw [h1,List.getElem?_eq_getElem hj];simp [h2.rm]
  ·rw [List.getElem?_eq_none (by rw [h.1];omega),List.getElem?_eq_none (by omega)]
 unfold YtgjomknpjigkhaaGreatDoor.ftp
 rw [e]
theorem bse_add {w:World} {bb gr cr:Nat} {B:SB} {S:ST} {rs:List RelX} {x0 x1 x3:Value} (h:Bse w bb B S gr cr rs x0 x1 x3) {i:Nat} {r:RelX} (hi:rs[i]?=some r) {Fa:List Nat→Prop} {rk:List Nat→Option Nat} (hs:RelS S r Fa rk) {x:Int} {X:List Nat→Prop} (hx:Rep S x r.n X) (rank:Nat) (hl:S.next+4095<lim) :
  Calls Tryz.prog 261 #[.pointer (some ⟨bb,0,none⟩),.pointer (some ⟨gr,i * 5,none⟩),.int .i64 x,.int .i64 (rank:Int)] w fun e w'=>e=.returned (.tuple #[])∧∃ r' S',Bse w' bb B S' gr cr (rs.set i r') x0 x1 x3∧Keeps (ftp B gr rs) w w'∧Ext S S'∧S'.next≤S.next+4095∧LikeR r r'∧RelS S' r' Fa (addRk rk X rank):=by
 obtain ⟨cs,hc,hcs⟩:=h.rel
 have hr:=List.mem_of_getElem? hi
 have c:=hcs i r hi
 refine (badd_calls h.eng h.bs hc c.c0 c.c3 c.c4 (h.maps r hr) (h.cols r hr) hs.tu hx h.grB (h.rmB r hr) (h.grrm r hr) h.bbgr (h.bbrm r hr) hl).mono ?_
 rintro e w' ⟨rfl,t,S',L',hE',hc',hm',k',x',n',ht',hL'⟩
 refine ⟨rfl,{ r with tu:=t,L:=L' },S',h.turn hi rfl rfl k' hE' hc' (hcs.set ((c.setTu t).mapL L') (fun j q hj hq=>hq.other (by omega))) hm',ftp_turn hi k',x',n',⟨rfl,rfl,rfl,rfl,rfl,rfl⟩,hs.fa.ext x' h.eng.wf hE'.wf,ht'.iff fun l _=>?_,fun l hl=>?_⟩
 ·unfold addRk
  by_cases hX:X l
  ·simp [hX]
  ·simp [hX]
 ·show get L' _=_
  rw [hL' (asn l)]
  have hiff:asn l∈S'.trues x (3 * r.n)↔X l:=by
   rw [trues_rep (hx.ext x' h.eng.wf hE'.wf)]
   exact ⟨fun ⟨m,hm,hX,e⟩=>by rw [asn_inj hl hm e];exact hX,fun hX=>⟨l,hl,hX,rfl⟩⟩
  unfold addRk
  by_cases hX:X l
  ·rw [if_pos (hiff.2 hX),if_pos hX];rfl
  ·rw [if_neg (fun q=>hX (hiff.1 q)),if_neg hX];exact hs.ranks l hl
end
end Go.Proofs.YtgjomknpjigkhaaGreatDoor
