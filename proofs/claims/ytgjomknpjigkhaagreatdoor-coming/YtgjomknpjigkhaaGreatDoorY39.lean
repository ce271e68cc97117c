import Derived.Test.YtgjomknpjigkhaaGreatDoorY38
import Derived.Test.YtgjomknpjigkhaaGreatDoorCards
import Derived.Test.YtgjomknpjigkhaaGreatDoorTie
namespace Go.Proofs.YtgjomknpjigkhaaGreatDoor
set_option maxRecDepth 100000
set_option maxHeartbeats 4000000
section
open Go.ChangeShapes Go.WideShapes Go.ChangeAt Go.RowKit
theorem PA:laidOutB Tryz.prog=true:=by kernel_rfl
theorem iE:Tryz.prog.readableRec 42=true:=by kernel_rfl
theorem Xp:Tryz.prog.readableRec 43=true:=by kernel_rfl
theorem mR:42<Tryz.prog.types.size:=of_decide_eq_true (by kernel_rfl)
theorem bC:43<Tryz.prog.types.size:=of_decide_eq_true (by kernel_rfl)
theorem N8 (H:Type) (enc:TypeId×Value→H) (W:World) (base:Nat) (args:Array Value) (ds gs:List (DataW H)) (before:List MemPlace)
  (hval0:∀ (j:Nat) t v,Tryz.f9.params[j]?=some t→args[j]?=some v→Value.okWide Tryz.prog W .any base t v)
  (hW:DataW.Whole enc Tryz.prog Tryz.f9.params.toList Rows.comingSpec.vars false W args.toList ds gs before) (hsz0:(DataW.weightsEach Tryz.prog (Tryz.f9.params.toList++Rows.comingSpec.plain.varTypes Tryz.prog) (ds++gs)).all (·≤reachBytes)=true) :
  Calls Tryz.prog 9 args W fun e W'=>∃ v,e=.returned v∧Rows.comingSpec.post enc Tryz.prog Tryz.f9 false true false false W args v W':=by
 have hval:∀ (j:Nat) t v,Tryz.f9.params[j]?=some t→args[j]?=some v→Value.okWide Tryz.prog W .any base t v:=hval0;have hW':=hW;obtain ⟨p,q,hA0,hV,rfl,hfz,hnd⟩:=hW;have hA:DataW.TrodAll enc Tryz.prog W 0 (fun _=>true) true Tryz.f9.params.toList args.toList ds p:=hA0;have hsz:(DataW.weightsEach Tryz.prog (Tryz.f9.params.toList++[]) (ds++gs)).all (·≤reachBytes)=true:=hsz0;rw [Tryz.params9] at hA hval hsz;obtain ⟨v0,vs0,d0,ds0,p0,q0,hargs,rfl,rfl,h0,r0⟩:=trodAll_cons hA;obtain ⟨v1,vs1,d1,ds1,p1,q1,hargs1,rfl,rfl,h1,r1⟩:=trodAll_cons r0;obtain ⟨v2,vs2,d2,ds2,p2,q2,hargs2,rfl,rfl,h2,r2⟩:=trodAll_cons r1;obtain ⟨v3,vs3,d3,ds3,p3,q3,hargs3,rfl,rfl,h3,r3⟩:=trodAll_cons r2;obtain ⟨rfl,rfl,rfl⟩:=trodAll_nil r3;subst hargs3 hargs2 hargs1;obtain rfl:args=#[v0,v1,v2,v3]:=by cases args;simp_all
 obtain ⟨rfl,rfl⟩:=trodVars_none hV;clear hA0 hval0 hsz0;have small:∀ (j:Nat) (t:TypeId) (d:DataW H),[3,42,43,43][j]?=some t→[d0,d1,d2,d3][j]?=some d→Small t d:=fun j t d ht hd n hn=>by
  have:=List.all_eq_true.1 hsz _ (DataW.weights_mem_each (j:=j) (t:=t) (d:=d) (by simpa using ht) (by simpa using hd) n hn);simpa using this
 obtain ⟨n,rfl,rfl,rfl,hwf⟩:=open_int Tryz.underlying3 (hval 0 3 v0 rfl rfl) h0;obtain ⟨a1,l1,c1,rfl⟩:=okWide_slice Tryz.underlying42 (hval 1 42 v1 rfl rfl);obtain ⟨a2,l2,c2,rfl⟩:=okWide_slice Tryz.underlying43 (hval 2 43 v2 rfl rfl);obtain ⟨a3,l3,c3,rfl⟩:=okWide_slice Tryz.underlying43 (hval 3 43 v3 rfl rfl)
 obtain ⟨ra,rc,rs,e1,hrs,hrl,hbl⟩:=(show ∃ ad cap,∃ rs:List ER,Value.slice a1 l1 c1=.slice ad rs.length cap∧Je W ad rs∧rs.length * 64≤140737488355328∧∀ r∈rs,r.body.length * 40≤140737488355328 by
  obtain ⟨fuel,hn⟩:=h1;have hn':DataW.trod enc Tryz.prog W 0 (fun _=>true) true fuel 42 [.slice a1 l1 c1]=some (d1,p1):=hn
  exact Vz hn' (small 1 42 d1 rfl rfl))
 obtain ⟨fa,fc,fs,e2,hfs⟩:=(show ∃ ad cap,∃ fs:List Bc,Value.slice a2 l2 c2=.slice ad fs.length cap∧Eh W ad fs by
  obtain ⟨fuel,hn⟩:=h2;have hn':DataW.trod enc Tryz.prog W 0 (fun _=>true) true fuel 43 [.slice a2 l2 c2]=some (d2,p2):=hn;obtain ⟨a,b,c,d,e,_⟩:=PN hn' (small 2 43 d2 rfl rfl)
  exact ⟨a,b,c,d,e⟩)
 obtain ⟨ma,mc,ms,e3,hms⟩:=(show ∃ ad cap,∃ fs:List Bc,Value.slice a3 l3 c3=.slice ad fs.length cap∧Eh W ad fs by
  obtain ⟨fuel,hn⟩:=h3;have hn':DataW.trod enc Tryz.prog W 0 (fun _=>true) true fuel 43 [.slice a3 l3 c3]=some (d3,p3):=hn;obtain ⟨a,b,c,d,e,_⟩:=PN hn' (small 3 43 d3 rfl rfl)
  exact ⟨a,b,c,d,e⟩)
 injection e1 with x1 x2 x3;injection e2 with y1 y2 y3;injection e3 with z1 z2 z3;subst x1 x2 x3 y1 y2 y3 z1 z2 z3;refine (Ss W n (GV hwf).1 (GV hwf).2 hrs (by omega) hfs hms).mono fun e W' ⟨he,k⟩=>?_;subst he;have hB:=k.below (B:=W.heap.size) (AS _) (by simp);simp only [Be,BU] at hW';have hlt:∀ x∈p1++(p2++p3),x.block<W.heap.size:=fun x hx=>hW'.lt x (by simpa using hx);refine ⟨.bool true,rfl,_,_,_,[],p1++(p2++p3),[],hW',trodAll_mk1 (shut_bool Tryz.underlying4 _),?_,rfl,hB.frame _,fun h=>by cases h⟩
 exact trodAll_mk4 (p:=[]) (shut_int Tryz.underlying3 hwf)
  (WideElems.Trod_stays (P:=Tryz.prog) PA iE mR h1 (fun x hx=>hB.same (hlt x (by simp [hx]))) (fun x hx=>by have:=hlt x (by simp [hx]);simpa using this))
  (WideElems.Trod_stays (P:=Tryz.prog) PA Xp bC h2 (fun x hx=>hB.same (hlt x (by simp [hx]))) (fun x hx=>by have:=hlt x (by simp [hx]);simpa using this))
  (WideElems.Trod_stays (P:=Tryz.prog) PA Xp bC h3 (fun x hx=>hB.same (hlt x (by simp [hx]))) (fun x hx=>by have:=hlt x (by simp [hx]);simpa using this))
theorem Sq (f : FuncId) (fn : Func) (hf : Tryz.pinned.checked.prog.funcNamed "thresh/threshkeep.Coming" = some f) (hfn : Tryz.pinned.checked.prog.funcs[f]? = some fn) :
  true=Tryz.pinned.checked.prog.looks []∧∀ (j:Nat) t,fn.params[j]?=some t→Tryz.pinned.checked.prog.wantsStandIn t=false:=by
 obtain rfl : f = 9 := As ((show Tryz.prog.funcNamed "thresh/threshkeep.Coming" = some 9 by kernel_rfl).symm.trans hf) |>.symm
 obtain rfl:fn=Tryz.f9:=(As (Tryz.func9.symm.trans hfn)).symm;refine ⟨by kernel_rfl,fun j t ht=>?_⟩;rw [Tryz.params9] at ht;have:t=3∨t=42∨t=43:=by simpa using Array.mem_of_getElem? ht
 rcases this with rfl | rfl | rfl
 ·exact (show Tryz.prog.wantsStandIn 3=false by kernel_rfl)
 ·exact (show Tryz.prog.wantsStandIn 42=false by kernel_rfl)
 ·exact (show Tryz.prog.wantsStandIn 43=false by kernel_rfl)
end
end Go.Proofs.YtgjomknpjigkhaaGreatDoor
