import Derived.Test.YtgjomknpjigkhaaGreatDoorR49
import Derived.Test.YtgjomknpjigkhaaGreatDoorCards
import Derived.Test.YtgjomknpjigkhaaGreatDoorTie
import Derived.WalkKit
import Derived.ProofKit
import Derived.OpenShut
import Derived.Deep.DeepHandedRow
import Derived.Lib.LaidTab
import Derived.WideKeyArgs
import Derived.Deep.Slices
import Derived.SizedLaws
namespace Go.Proofs.YtgjomknpjigkhaaGreatDoor
section
open Go.ChangeShapes Go.WideShapes Go.ChangeAt Go.RowKit
theorem laidOutR:laidOutB Tryz.prog = true:=by kernel_rfl
theorem slice_readR40:Tryz.prog.readableRec 40 = true:=by kernel_rfl
theorem slice_rowR40:40 < Tryz.prog.types.size:=of_decide_eq_true (by kernel_rfl)
theorem cellsOfR3:Tryz.prog.cellsOf 3 = 1:=by kernel_rfl
theorem fits_litR {x:Int} (h:(Lit.int .i64 x).wf = true):-9223372036854775808≤x∧x≤9223372036854775807:=by
 simp [Lit.wf,IntKind.min,IntKind.max,IntKind.signed,IntKind.bits] at h
 omega
set_option maxRecDepth 100000 in
theorem edges_read {H:Type} {enc:TypeId × Value→H} {w:World} {v:Value} {d:DataW H} {ps:List MemPlace} {r:Go.Reach} {b0:Nat} (hval:Value.okWide Tryz.prog w r b0 40 v) (h:DataW.Trod enc Tryz.prog w 0 (fun _=>true) true 40 v d ps):∃ av cap es,v = .slice av es.length cap∧IntsIn w av es:=by
 obtain ⟨sa,sl,sc,rfl⟩:=okWide_slice Tryz.underlying40 hval
 obtain ⟨fuel,hn⟩:=h
 have hn':DataW.trod enc Tryz.prog w 0 (fun _=>true) true fuel 40 [.slice sa sl sc] = some (d,ps):=hn
 rcases open_ints Tryz.underlying40 Tryz.underlying3 cellsOfR3 hn' with ⟨hc,_⟩ | ⟨a,len,cap,zs,hc,_,hl,_,hz,_,hcell,hwf⟩
 ·simp only [List.cons.injEq,and_true] at hc
  exact ⟨none,0,[],hc,fun i x hx=>by simp at hx⟩
 ·simp only [List.cons.injEq,and_true] at hc
  simp only [if_true] at hz
  refine ⟨some a,cap,zs.take len,by rw [List.length_take,Nat.min_eq_left (by omega)];exact hc,fun i x hx=>?_⟩
  rw [List.getElem?_take] at hx
  split at hx
  ·rename_i hi
   have hm:=List.mem_of_getElem? hx
   have:=fits_litR (hwf x hm)
   refine ⟨this.1,this.2,a,rfl,?_⟩
   rw [hcell i (by omega),List.getD_eq_getElem?_getD,hx]
   rfl
  ·cases hx
set_option maxRecDepth 100000 in
theorem reached_contract (H:Type) (enc:TypeId × Value→H) (W:World) (base:Nat) (args:Array Value) (ds gs:List (DataW H)) (before:List MemPlace)
  (hval0:∀ (j:Nat) t v,Tryz.f11.params[j]? = some t→args[j]? = some v→Value.okWide Tryz.prog W .any base t v)
  (hW:DataW.Whole enc Tryz.prog Tryz.f11.params.toList Rows.reachedSpec.vars false W args.toList ds gs before) :
  Calls Tryz.prog 11 args W fun e W'=>∃ v,e = .returned v∧Rows.reachedSpec.post enc Tryz.prog Tryz.f11 false true false false W args v W':=by
 have hval:∀ (j:Nat) t v,Tryz.f11.params[j]? = some t→args[j]? = some v→Value.okWide Tryz.prog W .any base t v:=hval0
 have hW':=hW
 obtain ⟨p,q,hA0,hV,rfl,hfz,hnd⟩:=hW
 have hA:DataW.TrodAll enc Tryz.prog W 0 (fun _=>true) true Tryz.f11.params.toList args.toList ds p:=hA0
 rw [Tryz.params11] at hA hval
 obtain ⟨v0,vs0,d0,ds0,p0,q0,hargs,rfl,rfl,h0,r0⟩:=trodAll_cons hA
 obtain ⟨v1,vs1,d1,ds1,p1,q1,hargs1,rfl,rfl,h1,r1⟩:=trodAll_cons r0
 obtain ⟨rfl,rfl,rfl⟩:=trodAll_nil r1
 subst hargs1
 obtain rfl:args = #[v0,v1]:=by cases args;simp_all
 obtain ⟨rfl,rfl⟩:=trodVars_none hV
 clear hA0 hval0
 obtain ⟨n,rfl,rfl,rfl,hwf⟩:=open_int Tryz.underlying3 (hval 0 3 v0 rfl rfl) h0
 obtain ⟨av,cap,es,rfl,hes⟩:=edges_read (hval 1 40 v1 rfl rfl) h1
 refine (reached_calls W n (fits_litR hwf).1 (fits_litR hwf).2 hes).mono fun e W' ⟨he,k⟩=>?_
 subst he
 have hB:=k.below (B:=W.heap.size) (Nat.le_refl _) (by simp)
 simp only [List.append_nil,List.nil_append] at hW'
 have hlt:∀ x ∈ p1,x.block < W.heap.size:=fun x hx=>hW'.lt x (by simpa using hx)
 refine ⟨.bool true,rfl,_,_,_,[],p1,[],hW',trodAll_mk1 (shut_bool Tryz.underlying4 _),?_,rfl,hB.frame _,fun h=>by cases h⟩
 exact trodAll_mk2 (p:=[]) (shut_int Tryz.underlying3 hwf) (WideElems.Trod_stays (P:=Tryz.prog) laidOutR slice_readR40 slice_rowR40 h1 (fun x hx=>hB.same (hlt x hx)) (fun x hx=>by simpa using hlt x hx))
theorem reached_plain (f : FuncId) (fn : Func) (hf : Tryz.pinned.checked.prog.funcNamed "thresh/threshkeep.Reached" = some f) (hfn : Tryz.pinned.checked.prog.funcs[f]? = some fn) :
  true = Tryz.pinned.checked.prog.looks []∧∀ (j:Nat) t,fn.params[j]? = some t→Tryz.pinned.checked.prog.wantsStandIn t = false:=by
 obtain rfl : f = 11 := Option.some.inj ((show Tryz.prog.funcNamed "thresh/threshkeep.Reached" = some 11 by kernel_rfl).symm.trans hf) |>.symm
 obtain rfl:fn = Tryz.f11:=(Option.some.inj (Tryz.func11.symm.trans hfn)).symm
 refine ⟨by kernel_rfl,fun j t ht=>?_⟩
 rw [Tryz.params11] at ht
 have:t = 3∨t = 40:=by simpa using Array.mem_of_getElem? ht
 rcases this with rfl | rfl
 ·exact (show Tryz.prog.wantsStandIn 3 = false by kernel_rfl)
 ·exact (show Tryz.prog.wantsStandIn 40 = false by kernel_rfl)
end
end Go.Proofs.YtgjomknpjigkhaaGreatDoor
