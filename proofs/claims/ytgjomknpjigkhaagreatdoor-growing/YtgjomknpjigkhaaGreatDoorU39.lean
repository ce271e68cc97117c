import Derived.Test.YtgjomknpjigkhaaGreatDoorU38
import Derived.Test.YtgjomknpjigkhaaGreatDoorCards
import Derived.Test.YtgjomknpjigkhaaGreatDoorTie
namespace Go.Proofs.YtgjomknpjigkhaaGreatDoor
set_option maxRecDepth 100000
set_option maxHeartbeats 4000000
section
open Go.ChangeShapes Go.WideShapes Go.ChangeAt Go.RowKit
theorem laidOutG:laidOutB Tryz.prog=true:=by kernel_rfl
theorem readG42:Tryz.prog.readableRec 42=true:=by kernel_rfl
theorem readG43:Tryz.prog.readableRec 43=true:=by kernel_rfl
theorem readG51:Tryz.prog.readableRec 51=true:=by kernel_rfl
theorem rowG42:42<Tryz.prog.types.size:=of_decide_eq_true (by kernel_rfl)
theorem rowG43:43<Tryz.prog.types.size:=of_decide_eq_true (by kernel_rfl)
theorem rowG51:51<Tryz.prog.types.size:=of_decide_eq_true (by kernel_rfl)
theorem growing_contract (H:Type) (enc:TypeId×Value→H) (W:World) (base:Nat) (args:Array Value) (ds gs:List (DataW H)) (bf:List MemPlace)
  (w6:∀ (j:Nat) t v,Tryz.f10.params[j]?=some t→args[j]?=some v→Value.okWide Tryz.prog W .any base t v)
  (hW:DataW.Whole enc Tryz.prog Tryz.f10.params.toList Rows.growingSpec.vars false W args.toList ds gs bf) (w8:(DataW.weightsEach Tryz.prog (Tryz.f10.params.toList++Rows.growingSpec.plain.varTypes Tryz.prog) (ds++gs)).all (·≤reachBytes)=true) :
  Calls Tryz.prog 10 args W fun e W'=>∃ v,e=.returned v∧Rows.growingSpec.post enc Tryz.prog Tryz.f10 false true false false W args v W':=by
 have w7:∀ (j:Nat) t v,Tryz.f10.params[j]?=some t→args[j]?=some v→Value.okWide Tryz.prog W .any base t v:=w6;have hW':=hW;obtain ⟨p,q,hA0,hV,rfl,t5,t4⟩:=hW;have hA:DataW.TrodAll enc Tryz.prog W 0 (fun _=>true) true Tryz.f10.params.toList args.toList ds p:=hA0;have w9:(DataW.weightsEach Tryz.prog (Tryz.f10.params.toList++[]) (ds++gs)).all (·≤reachBytes)=true:=w8;rw [Tryz.params10] at hA w7 w9;obtain ⟨v0,z6,d0,y6,p0,q0,x6,rfl,rfl,h0,r0⟩:=trodAll_cons hA;obtain ⟨v1,z7,d1,y7,p1,q1,x7,rfl,rfl,h1,r1⟩:=trodAll_cons r0;obtain ⟨v2,z8,d2,y8,p2,q2,x8,rfl,rfl,h2,r2⟩:=trodAll_cons r1;obtain ⟨v3,z9,d3,y9,p3,q3,x9,rfl,rfl,h3,r3⟩:=trodAll_cons r2;obtain ⟨rfl,rfl,rfl⟩:=trodAll_nil r3;subst x9 x8 x7;obtain rfl:args=#[v0,v1,v2,v3]:=by cases args;simp_all
 obtain ⟨rfl,rfl⟩:=trodVars_none hV;clear hA0 w6 w8;have sm:∀ (j:Nat) (t:TypeId) (d:DataW H),[3,42,43,51][j]?=some t→[d0,d1,d2,d3][j]?=some d→Small t d:=fun j t d ht hd n hn=>by
  have:=List.all_eq_true.1 w9 _ (DataW.weights_mem_each (j:=j) (t:=t) (d:=d) (by simpa using ht) (by simpa using hd) n hn);simpa using this
 obtain ⟨n,rfl,rfl,rfl,u7⟩:=open_int Tryz.underlying3 (w7 0 3 v0 rfl rfl) h0;obtain ⟨a1,l1,c1,rfl⟩:=okWide_slice Tryz.underlying42 (w7 1 42 v1 rfl rfl);obtain ⟨a2,l2,c2,rfl⟩:=okWide_slice Tryz.underlying43 (w7 2 43 v2 rfl rfl);obtain ⟨t3,rfl,_⟩:=okWide_struct Tryz.underlying51 (w7 3 51 v3 rfl rfl)
 obtain ⟨ra,rc,rs,e1,u1,u2,u3⟩:=(show ∃ ad cap,∃ rs:List RawR,Value.slice a1 l1 c1=.slice ad rs.length cap∧RulesIn W ad rs∧rs.length * 64≤140737488355328∧∀ r∈rs,r.body.length * 40≤140737488355328 by
  obtain ⟨u9,hn⟩:=h1;have hn':DataW.trod enc Tryz.prog W 0 (fun _=>true) true u9 42 [.slice a1 l1 c1]=some (d1,p1):=hn
  exact rules_read hn' (sm 1 42 d1 rfl rfl))
 obtain ⟨fa,fc,fs,e2,u4,u5⟩:=(show ∃ ad cap,∃ fs:List RawF,Value.slice a2 l2 c2=.slice ad fs.length cap∧zQL W ad fs∧fs.length≤10000000000000 by
  obtain ⟨u9,hn⟩:=h2;have hn':DataW.trod enc Tryz.prog W 0 (fun _=>true) true u9 43 [.slice a2 l2 c2]=some (d2,p2):=hn
  exact facts_read hn' (sm 2 43 d2 rfl rfl))
 obtain ⟨mo,u6,e3⟩:=(show ∃ f:RawF,FactOk W f∧t3=#[.int .i64 f.rel,.slice f.av f.L.length f.cap] by
  obtain ⟨u9,hn⟩:=h3;have hn':DataW.trod enc Tryz.prog W 0 (fun _=>true) true u9 51 t3.toList=some (d3,p3):=hn;obtain ⟨f,hf,e⟩:=fact_read hn'
  exact ⟨f,hf,by cases t3 with | mk l=>exact congrArg List.toArray e⟩)
 injection e1 with x1 x2 x3;injection e2 with y1 y2 y3;subst x1 x2 x3 y1 y2 y3 e3;refine (growing_calls W n (eQH u7).1 (eQH u7).2 u1 u2 u3 u4 u5 mo u6).mono fun e W' ⟨he,k⟩=>?_;subst he;have hB:=k.below (B:=W.heap.size) (Nat.le_refl _) (by simp);simp only [List.append_nil,List.nil_append] at hW';have u8:∀ x∈p1++(p2++p3),x.block<W.heap.size:=fun x hx=>hW'.lt x (by simpa using hx);refine ⟨.bool true,rfl,_,_,_,[],p1++(p2++p3),[],hW',trodAll_mk1 (shut_bool Tryz.underlying4 _),?_,rfl,hB.frame _,fun h=>by cases h⟩
 exact trodAll_mk4 (p:=[]) (shut_int Tryz.underlying3 u7)
  (WideElems.Trod_stays (P:=Tryz.prog) laidOutG readG42 rowG42 h1 (fun x hx=>hB.same (u8 x (by simp [hx]))) (fun x hx=>by have:=u8 x (by simp [hx]);simpa using this))
  (WideElems.Trod_stays (P:=Tryz.prog) laidOutG readG43 rowG43 h2 (fun x hx=>hB.same (u8 x (by simp [hx]))) (fun x hx=>by have:=u8 x (by simp [hx]);simpa using this))
  (WideElems.Trod_stays (P:=Tryz.prog) laidOutG readG51 rowG51 h3 (fun x hx=>hB.same (u8 x (by simp [hx]))) (fun x hx=>by have:=u8 x (by simp [hx]);simpa using this))
theorem growing_plain (f : FuncId) (fn : Func) (hf : Tryz.pinned.checked.prog.funcNamed "thresh/threshkeep.Growing" = some f) (hfn : Tryz.pinned.checked.prog.funcs[f]? = some fn) :
  true=Tryz.pinned.checked.prog.looks []∧∀ (j:Nat) t,fn.params[j]?=some t→Tryz.pinned.checked.prog.wantsStandIn t=false:=by
 obtain rfl : f = 10 := Option.some.inj ((show Tryz.prog.funcNamed "thresh/threshkeep.Growing" = some 10 by kernel_rfl).symm.trans hf) |>.symm
 obtain rfl:fn=Tryz.f10:=(Option.some.inj (Tryz.func10.symm.trans hfn)).symm;refine ⟨by kernel_rfl,fun j t ht=>?_⟩;rw [Tryz.params10] at ht;have:t=3∨t=42∨t=43∨t=51:=by simpa using Array.mem_of_getElem? ht
 rcases this with rfl | rfl | rfl | rfl
 ·exact (show Tryz.prog.wantsStandIn 3=false by kernel_rfl)
 ·exact (show Tryz.prog.wantsStandIn 42=false by kernel_rfl)
 ·exact (show Tryz.prog.wantsStandIn 43=false by kernel_rfl)
 ·exact (show Tryz.prog.wantsStandIn 51=false by kernel_rfl)
end
end Go.Proofs.YtgjomknpjigkhaaGreatDoor
