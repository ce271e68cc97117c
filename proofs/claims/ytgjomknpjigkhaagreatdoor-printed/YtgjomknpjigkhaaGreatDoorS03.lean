import Derived.Test.YtgjomknpjigkhaaGreatDoorProg
import Derived.Test.YtgjomknpjigkhaaGreatDoorS02
import Derived.Maps.OwnSet
import Derived.Maps.RangeWalk
import Derived.WalkKit
import Derived.WalkLawsBesides
import Derived.BigQuiet
namespace Go.Proofs.YtgjomknpjigkhaaGreatDoor
set_option maxRecDepth 100000
set_option maxHeartbeats 4000000
section
open Go.RowKit
section
variable {P:Program} {K:TypeId} {α β:Type} {ek:α→Value} {ev:β→Value}
def MapIs (ek:α→Value) (ev:β→Value) (w:World) (r:Nat) (L:List (α×β)):Prop:=
 ∃ es clock,w.heap[r]?=some (.map es clock)∧es.toList.map (fun e=>(e.key,e.val))=L.map (fun p=>(ek p.1,ev p.2)) ∧
  (es.toList.map (·.born)).Nodup∧(∀ e∈es.toList,e.born<clock)∧(L.map Prod.fst).Nodup
theorem MapIs.of_heap {w w':World} {r:Nat} {L:List (α×β)} (h:MapIs ek ev w r L) (e:w'.heap[r]?=w.heap[r]?):MapIs ek ev w' r L:=by
 obtain ⟨es,clock,h1,h2⟩:=h
 exact ⟨es,clock,e.trans h1,h2⟩
theorem MapIs.lt {w:World} {r:Nat} {L:List (α×β)} (h:MapIs ek ev w r L):r<w.heap.size:=by
 obtain ⟨es,clock,h1,h2⟩:=h
 exact (Array.getElem?_eq_some_iff.1 h1).1
theorem MapIs.new (w:World) (c:Nat):MapIs ek ev (w.alloc (.map #[] c)) w.heap.size ([]:List (α×β)):=
 ⟨#[],c,(MapKept.heap_alloc w _).1,by simp,by simp,by simp,by simp⟩
def blk (w:World) (r:Nat) (o:Obj):World:={ w with heap:=w.heap.setIfInBounds r o }
theorem blk_same {w:World} {r:Nat} {o o':Obj} (h:w.heap[r]?=some o):(blk w r o').heap[r]?=some o':=(MapKept.heap_set h).1
theorem blk_other {w:World} {r:Nat} (o':Obj) {i:Nat} (hi:i≠r):(blk w r o').heap[i]?=w.heap[i]?:=by
 simp [blk,Ne.symm hi]
theorem run_clear {T:TypeId} {d:TypeDesc} (ht:P.underlying T=some d) {w:World} {r:Nat} {L:List (α×β)} (h:MapIs ek ev w r L) (ty:TypeId) :
  ∃ o,(Builtin.clear_ #[T] ty #[.map (some r)]).run P w=.ok (.tuple #[]) (blk w r o)∧MapIs ek ev (blk w r o) r ([]:List (α×β)):=by
 obtain ⟨es,clock,h1,h2,h3,h4,h5⟩:=h
 refine ⟨.map #[] clock,?_,#[],clock,blk_same h1,by simp,by simp,by simp,by simp⟩
 have hcell:(#[Value.map (some r)])[0]?=some (.map (some r)):=rfl
 have hty:(#[T])[0]?=some T:=rfl
 unfold Builtin.clear_
 simp only [hcell,hty,Sem.run_bind,run_underlying ht,Result.andThen_ok,MapKept.run_getObj_map h1,MapKept.run_setObj_map _ h1,Sem.run_pure]
 rfl
end
structure KeyOk (P:Program) (K:TypeId) {α:Type} [DecidableEq α] (ek:α→Value):Prop where
 check:∀ (em:Bool) (a:α) (w:World),(Instr.checkKey em 10000 K (ek a)).run P w=.ok () w
 eq:∀ (a b:α) (w:World),(Op.equal K (ek a) (ek b)).run P w=.ok (decide (a=b)) w
 under:∃ d,P.underlying K=some d∧∀ a b,Instr.sameNow d (ek a) (ek b)=none∨Instr.sameNow d (ek a) (ek b)=some (decide (a=b))
 stays:∀ (a:α) (w:World),(Instr.keyThatStays (ek a) (ek a)).run P w=.ok (ek a) w
section
variable {P:Program} {K:TypeId} {α β:Type} [DecidableEq α] {ek:α→Value} {ev:β→Value}
def spot (ev:β→Value):List (α×β)→α→Nat→Option (Nat×Value)
 | [],_,_=>none
 | p :: L,a,i=>if p.1=a then some (i,ev p.2) else spot ev L a (i+1)
theorem findNow_ok {d:TypeDesc} (hd:∀ a b,Instr.sameNow d (ek a) (ek b)=none∨Instr.sameNow d (ek a) (ek b)=some (decide (a=b))) (a:α) :
  ∀ (es:List MapEntry) (L:List (α×β)) (i:Nat),es.map (fun e=>(e.key,e.val))=L.map (fun p=>(ek p.1,ev p.2))→Instr.findNow d (ek a) es i=none∨Instr.findNow d (ek a) es i=some (spot ev L a i)
 | [],[],i,_=>.inr rfl
 | [],_ :: _,_,h=>by simp at h
 | _ :: _,[],_,h=>by simp at h
 | e :: es,p :: L,i,h=>by
  simp only [List.map_cons,List.cons.injEq,Prod.mk.injEq] at h
  obtain ⟨⟨h1,h2⟩,h3⟩:=h
  unfold Instr.findNow spot
  rw [h1]
  rcases hd a p.1 with h0 | h0
  ·rw [h0];exact .inl rfl
  ·rw [h0]
   by_cases hp:p.1=a
   ·have:a=p.1:=hp.symm
    simp [hp,h2]
   ·have:¬ a=p.1:=fun x=>hp x.symm
    simp only [this,hp,decide_false,if_false]
    exact findNow_ok hd a es L (i+1) h3
theorem findAsking_ok (hk:KeyOk P K ek) (a:α) (w:World) :
  ∀ (es:List MapEntry) (L:List (α×β)) (i:Nat),es.map (fun e=>(e.key,e.val))=L.map (fun p=>(ek p.1,ev p.2))→(Instr.findAsking K (ek a) es i).run P w=.ok (spot ev L a i) w
 | [],[],i,_=>rfl
 | [],_ :: _,_,h=>by simp at h
 | _ :: _,[],_,h=>by simp at h
 | e :: es,p :: L,i,h=>by
  simp only [List.map_cons,List.cons.injEq,Prod.mk.injEq] at h
  obtain ⟨⟨h1,h2⟩,h3⟩:=h
  unfold Instr.findAsking spot
  rw [h1]
  simp only [Sem.run_bind,hk.eq,Result.andThen_ok]
  by_cases hp:p.1=a
  ·simp [hp,h2]
  ·have:¬ a=p.1:=fun x=>hp x.symm
   simp only [this,hp,decide_false,if_false,Bool.false_eq_true]
   exact findAsking_ok hk a w es L (i+1) h3
theorem findKey_ok (hk:KeyOk P K ek) (a:α) (w:World) (es:List MapEntry) (L:List (α×β)) (h:es.map (fun e=>(e.key,e.val))=L.map (fun p=>(ek p.1,ev p.2))) :
  (Instr.findKey K (ek a) es).run P w=.ok (spot ev L a 0) w:=by
 obtain ⟨d,hd,hs⟩:=hk.under
 unfold Instr.findKey
 simp only [Sem.run_bind,run_underlying hd,Result.andThen_ok]
 rcases findNow_ok hs a es L 0 h with h0 | h0
 ·rw [h0];exact findAsking_ok hk a w es L 0 h
 ·rw [h0];rfl
theorem spot_spec (a:α):∀ (L:List (α×β)) (i:Nat),(spot ev L a i=none∧get L a=none)∨∃ j v,spot ev L a i=some (i+j,ev v)∧get L a=some v∧L[j]?=some (a,v)
 | [],i=>.inl ⟨rfl,rfl⟩
 | p :: L,i=>by
  unfold spot
  rw [get_cons]
  by_cases hp:p.1=a
  ·subst hp
   exact .inr ⟨0,p.2,by simp,by simp,by simp⟩
  ·simp only [hp,if_false]
   rcases spot_spec a L (i+1) with h | ⟨j,v,h1,h2,h3⟩
   ·exact .inl h
   ·exact .inr ⟨j+1,v,by rw [h1];congr 2;omega,h2,by simpa using h3⟩
theorem run_look {T E:TypeId} (ht:P.underlying T=some (.map K E)) (hk:KeyOk P K ek) {z:Value} (hz:∀ w,(zeroValue E).run P w=.ok z w) {w:World} {r:Nat} {L:List (α×β)} (h:MapIs ek ev w r L) (a:α) (c:Bool) :
  (Instr.lookup T (.map (some r)) (ek a) c).run P w=.ok (if c then .tuple #[((get L a).map ev).getD z,.bool (get L a).isSome] else ((get L a).map ev).getD z) w:=by
 obtain ⟨es,clock,h1,h2,h3,h4,h5⟩:=h
 unfold Instr.lookup
 simp only [Sem.run_bind,run_underlying ht,Result.andThen_ok,MapKept.run_getObj_map h1,Sem.run_pure,hk.check,findKey_ok hk a w es.toList L h2]
 rcases spot_spec (ev:=ev) a L 0 with ⟨hs,hg⟩ | ⟨j,v,hs,hg,_⟩
 ·rw [hs,hg]
  simp only [Sem.run_bind,hz,Result.andThen_ok,Sem.run_pure,Option.map_none,Option.getD_none,Option.isSome_none]
 ·rw [hs,hg]
  simp only [Option.map_some,Option.getD_some,Option.isSome_some]
  rfl
theorem run_upd {T E:TypeId} (ht:P.underlying T=some (.map K E)) (hk:KeyOk P K ek) {w:World} {r:Nat} {L:List (α×β)} (h:MapIs ek ev w r L) (a:α) (v:β) :
  ∃ o,(Instr.mapUpdate T (.map (some r)) (ek a) (ev v)).run P w=.ok () (blk w r o)∧MapIs ek ev (blk w r o) r (put L a v):=by
 obtain ⟨es,clock,h1,h2,h3,h4,h5⟩:=h
 unfold Instr.mapUpdate
 simp only [Sem.run_bind,run_underlying ht,Result.andThen_ok,MapKept.run_getObj_map h1,hk.check,findKey_ok hk a w es.toList L h2]
 rcases spot_spec (ev:=ev) a L 0 with ⟨hs,hg⟩ | ⟨j,v0,hs,hg,hj⟩
 ·rw [hs]
  refine ⟨.map (es.push { key:=ek a,val:=ev v,born:=clock }) (clock+1),MapKept.run_setObj_map _ h1,_,_,blk_same h1,?_,?_,?_,nodup_put h5 a v⟩
  ·simp [put,hg,h2]
  ·simp only [Array.toList_push,List.map_append,List.map_cons,List.map_nil]
   refine List.nodup_append.2 ⟨h3,by simp,?_⟩
   intro x hx y hy
   simp only [List.mem_singleton] at hy
   subst hy
   obtain ⟨e,he,rfl⟩:=List.mem_map.1 hx
   exact Nat.ne_of_lt (h4 e he)
  ·intro e he
   simp only [Array.toList_push,List.mem_append,List.mem_singleton] at he
   rcases he with he | rfl
   ·exact Nat.lt_succ_of_lt (h4 e he)
   ·exact Nat.lt_succ_self _
 ·rw [hs]
  have hlen:es.toList.length=L.length:=by have:=congrArg List.length h2;simpa using this
  have hjl:j<L.length:=(List.getElem?_eq_some_iff.1 hj).1
  have hje:j<es.size:=by rw [←Array.length_toList,hlen];exact hjl
  have hkey:es[j].key=ek a:=by
   have:=congrArg (fun l:List (Value×Value)=>l[j]?) h2
   simp only [List.getElem?_map,hj,Option.map_some,Array.getElem?_toList,Array.getElem?_eq_getElem hje,Option.some.injEq,Prod.mk.injEq] at this
   exact this.1
  have hkey':((es[0+j]?).map (·.key)).getD (ek a)=ek a:=by simp [Array.getElem?_eq_getElem hje,hkey]
  have hrun:=MapKept.run_setObj_map (P:=P) (.map (es.modify (0+j) fun e=>{ e with key:=ek a,val:=ev v }) clock) h1
  refine ⟨.map (es.modify (0+j) fun e=>{ e with key:=ek a,val:=ev v }) clock,?_,_,_,blk_same h1,?_,?_,?_,nodup_put h5 a v⟩
  ·simp only [hkey',Sem.run_bind,hk.stays,Result.andThen_ok]
   exact hrun
  ·unfold put
   simp only [hg,Option.isSome_some,if_true]
   rw [put_replaces h5 v hj]
   apply List.ext_getElem?
   intro i
   have h2i:=congrArg (fun l:List (Value×Value)=>l[i]?) h2
   simp only [List.getElem?_map,Array.getElem?_toList,Array.getElem?_modify,List.getElem?_set,Nat.zero_add] at h2i ⊢
   by_cases hij:j=i
   ·subst hij
    simp [Array.getElem?_eq_getElem hje,hjl]
   ·simpa [hij] using h2i
  ·have:(es.modify (0+j) fun e=>{ e with key:=ek a,val:=ev v }).toList.map (·.born)=es.toList.map (·.born):=by
    apply List.ext_getElem?
    intro i
    simp only [List.getElem?_map,Array.getElem?_toList,Array.getElem?_modify]
    by_cases hij:0+j=i
    ·simp only [hij,if_true];cases es[i]? <;> simp
    ·simp only [hij,if_false]
   rw [this];exact h3
  ·intro e he
   rw [Array.mem_toList_iff,Array.mem_iff_getElem?] at he
   obtain ⟨i,hi⟩:=he
   rw [Array.getElem?_modify] at hi
   by_cases hij:0+j=i
   ·simp only [hij,if_true,Option.map_eq_some_iff] at hi
    obtain ⟨e0,he0,rfl⟩:=hi
    exact h4 e0 (Array.mem_toList_iff.2 (Array.mem_of_getElem? he0))
   ·simp only [hij,if_false] at hi
    exact h4 e (Array.mem_toList_iff.2 (Array.mem_of_getElem? hi))
theorem run_del {T E:TypeId} (ht:P.underlying T=some (.map K E)) (hk:KeyOk P K ek) {w:World} {r:Nat} {L:List (α×β)} (h:MapIs ek ev w r L) (a:α) (ty:TypeId) :
  ∃ o,(Builtin.delete_ #[T,K] ty #[.map (some r),ek a]).run P w=.ok (.tuple #[]) (blk w r o)∧MapIs ek ev (blk w r o) r (del L a):=by
 obtain ⟨es,clock,h1,h2,h3,h4,h5⟩:=h
 have hcell:(#[Value.map (some r),ek a])[0]?=some (.map (some r)):=rfl
 have hcell1:(#[Value.map (some r),ek a])[1]?=some (ek a):=rfl
 have hty:(#[T,K])[0]?=some T:=rfl
 unfold Builtin.delete_
 simp only [hcell,hcell1,hty,Sem.run_bind,run_underlying ht,Result.andThen_ok,MapKept.run_getObj_map h1,hk.check,findKey_ok hk a w es.toList L h2]
 rcases spot_spec (ev:=ev) a L 0 with ⟨hs,hg⟩ | ⟨j,v0,hs,hg,hj⟩
 ·rw [hs,del_absent hg]
  refine ⟨.map es clock,?_,es,clock,blk_same h1,h2,h3,h4,h5⟩
  rw [Sem.run_bind,MapKept.run_setObj_map _ h1]
  rfl
 ·rw [hs]
  have hlen:es.toList.length=L.length:=by have:=congrArg List.length h2;simpa using this
  have hjl:j<L.length:=(List.getElem?_eq_some_iff.1 hj).1
  have hje:j<es.size:=by rw [←Array.length_toList,hlen];exact hjl
  have hE:(es.eraseIdxIfInBounds (0+j)).toList=es.toList.eraseIdx j:=by simp
  refine ⟨.map (es.eraseIdxIfInBounds (0+j)) clock,?_,_,_,blk_same h1,?_,?_,?_,nodup_del h5 a⟩
  ·rw [Sem.run_bind,MapKept.run_setObj_map _ h1]
   rfl
  ·rw [hE,del_erases h5 hj,ChangeMaps.map_eraseIdx,ChangeMaps.map_eraseIdx,h2]
  ·rw [hE,ChangeMaps.map_eraseIdx]
   exact h3.sublist (List.eraseIdx_sublist _ _)
  ·rw [hE]
   intro e he
   exact h4 e ((List.eraseIdx_sublist _ _).mem he)
end
end
section
open Go.RowKit
def eI (n:Int):Value:=.int .i64 n
def eT (t:Tri):Value:=.agg #[.int .i64 t.1,.int .i64 t.2.1,.int .i64 t.2.2]
def eU (_:Unit):Value:=.agg #[]
theorem zero3 (w:World):(zeroValue 3).run Tryz.prog w=.ok (.int .i64 0) w:=by kernel_rfl
theorem zero228 (w:World):(zeroValue 228).run Tryz.prog w=.ok (.agg #[.int .i64 0,.int .i64 0,.int .i64 0]) w:=by kernel_rfl
theorem zero339 (w:World):(zeroValue 339).run Tryz.prog w=.ok (.agg #[]) w:=by kernel_rfl
theorem key3:KeyOk Tryz.prog 3 eI where
 check em a w:=MapKept.run_checkKey Tryz.underlying3 (by simp [MapKept.IsKey,eI]) em 9999
 eq a b w:=by
  simp only [Op.equal,Op.maxDepth,eI]
  rw [run_equalIn_int w 9999 3 .i64 .i64 a b Tryz.underlying3]
  rfl
 under:=⟨_,Tryz.underlying3,fun a b=>.inr (by simp only [Instr.sameNow,eI,if_true];rfl)⟩
 stays a w:=by simp [Instr.keyThatStays,eI,Instr.sameBits]
theorem stood228:Tryz.prog.stoodInHeld 228=false:=by kernel_rfl
theorem stood285:Tryz.prog.stoodInHeld 285=false:=by kernel_rfl
theorem fields228:Tryz.prog.underlying 228=some (.struct (Tryz.prog.fieldsOf 228)):=by kernel_rfl
theorem fields285:Tryz.prog.underlying 285=some (.struct (Tryz.prog.fieldsOf 285)):=by kernel_rfl
theorem part3 (cs:Array Value) (off:Nat) (v:Value) (h:cs[off]?=some v) (w:World):(part 3 cs off).run Tryz.prog w=.ok v w:=by
 have ha:∀ w,(isAgg 3).run Tryz.prog w=.ok false w:=fun w=>by kernel_rfl
 unfold part
 rw [Sem.run_bind,ha,Result.andThen_ok]
 simp only [Bool.false_eq_true,if_false,h]
 rfl
theorem part30 (x y z:Value) (w:World):(part 3 #[x,y,z] 0).run Tryz.prog w=.ok x w:=part3 _ _ _ rfl w
theorem part31 (x y z:Value) (w:World):(part 3 #[x,y,z] 1).run Tryz.prog w=.ok y w:=part3 _ _ _ rfl w
theorem part32 (x y z:Value) (w:World):(part 3 #[x,y,z] 2).run Tryz.prog w=.ok z w:=part3 _ _ _ rfl w
theorem eqF (d : Nat) (f1 f2 f3 : Field) (h1 : f1.type = 3 ∧ f1.offset = 0 ∧ f1.name ≠ "_") (h2 : f2.type = 3 ∧ f2.offset = 1 ∧ f2.name ≠ "_") (h3 : f3.type = 3 ∧ f3.offset = 2 ∧ f3.name ≠ "_") (a b : Tri) (w : World) :
  (Op.eqFields (d+1) #[.int .i64 a.1,.int .i64 a.2.1,.int .i64 a.2.2] #[.int .i64 b.1,.int .i64 b.2.1,.int .i64 b.2.2] [f1,f2,f3]).run Tryz.prog w=.ok (decide (a=b)) w:=by
 obtain ⟨a1,a2,a3⟩:=a
 obtain ⟨b1,b2,b3⟩:=b
 simp only [Op.eqFields,h1,h2,h3,ne_eq,not_false_eq_true,if_true,Sem.run_bind,part30,part31,part32,Result.andThen_ok,run_equalIn_int _ d 3 .i64 .i64 _ _ Tryz.underlying3,Sem.run_ite,Sem.run_pure]
 by_cases e1:a1=b1
 ·by_cases e2:a2=b2
  ·by_cases e3:a3=b3
   ·simp [e1,e2,e3]
   ·simp [e1,e2,e3]
  ·simp [e1,e2]
 ·simp [e1]
theorem eq228 (a b:Tri) (w:World):(Op.equal 228 (eT a) (eT b)).run Tryz.prog w=.ok (decide (a=b)) w:=by
 simp only [Op.equal,Op.maxDepth,eT]
 rw [run_equalIn_struct w 9999 228 _ _ fields228 stood228]
 simp only [Program.fieldsOf,Tryz.underlying228]
 exact eqF 9998 _ _ _ ⟨rfl,rfl,by decide⟩ ⟨rfl,rfl,by decide⟩ ⟨rfl,rfl,by decide⟩ a b w
theorem eq285 (a b:Tri) (w:World):(Op.equal 285 (eT a) (eT b)).run Tryz.prog w=.ok (decide (a=b)) w:=by
 simp only [Op.equal,Op.maxDepth,eT]
 rw [run_equalIn_struct w 9999 285 _ _ fields285 stood285]
 simp only [Program.fieldsOf,Tryz.underlying285]
 exact eqF 9998 _ _ _ ⟨rfl,rfl,by decide⟩ ⟨rfl,rfl,by decide⟩ ⟨rfl,rfl,by decide⟩ a b w
theorem stays3 (t:Tri) (w:World):(Instr.keyThatStays (eT t) (eT t)).run Tryz.prog w=.ok (eT t) w:=by
 have:Instr.sameBits 10000 (eT t) (eT t)=true:=by simp [eT,Instr.sameBits]
 simp [Instr.keyThatStays,this]
theorem check3 (em:Bool) (d:Nat) (a:Int) (w:World):(Instr.checkKey em (d+1) 3 (.int .i64 a)).run Tryz.prog w=.ok () w:=MapKept.run_checkKey Tryz.underlying3 (by simp [MapKept.IsKey]) em d
theorem check80 (em:Bool) (t:Tri) (w:World):(Instr.checkKey em 10000 228 (eT t)).run Tryz.prog w=.ok () w:=by
 rw [show (10000:Nat)=9998+1+1 from rfl,eT]
 unfold Instr.checkKey
 simp only [Sem.run_bind,run_underlying Tryz.underlying228,Result.andThen_ok]
 rw [←Array.forIn_toList]
 simp [part30,part31,part32,check3]
theorem check82 (em:Bool) (t:Tri) (w:World):(Instr.checkKey em 10000 285 (eT t)).run Tryz.prog w=.ok () w:=by
 rw [show (10000:Nat)=9998+1+1 from rfl,eT]
 unfold Instr.checkKey
 simp only [Sem.run_bind,run_underlying Tryz.underlying285,Result.andThen_ok]
 rw [←Array.forIn_toList]
 simp [part30,part31,part32,check3]
theorem key228:KeyOk Tryz.prog 228 eT:=⟨check80,eq228,⟨_,Tryz.underlying228,fun _ _=>.inl rfl⟩,stays3⟩
theorem key285:KeyOk Tryz.prog 285 eT:=⟨check82,eq285,⟨_,Tryz.underlying285,fun _ _=>.inl rfl⟩,stays3⟩
theorem hide {p:Prop} (h:p):Hid p:=h
structure Keeps (T:List Nat) (w w':World):Prop where
 os:w'.os=w.os
 tape:w'.tape=w.tape
 output:w'.output=w.output
 size:w.heap.size≤w'.heap.size
 block:∀ i,i<w.heap.size→i∉T→w'.heap[i]?=w.heap[i]?
theorem Keeps.refl (T:List Nat) (w:World):Keeps T w w:=⟨rfl,rfl,rfl,Nat.le_refl _,fun _ _ _=>rfl⟩
theorem Keeps.trans {T:List Nat} {a b c:World} (h:Keeps T a b) (k:Keeps T b c):Keeps T a c:=
 ⟨k.os.trans h.os,k.tape.trans h.tape,k.output.trans h.output,Nat.le_trans h.size k.size,fun i hi hT=>(k.block i (Nat.lt_of_lt_of_le hi h.size) hT).trans (h.block i hi hT)⟩
theorem Keeps.mono {T T':List Nat} {w w':World} (h:Keeps T w w') (hT:∀ i∈T,i∈T'):Keeps T' w w':=
 ⟨h.os,h.tape,h.output,h.size,fun i hi hn=>h.block i hi fun x=>hn (hT i x)⟩
theorem Keeps.trans_new {T T':List Nat} {a b c:World} (h:Keeps T a b) (k:Keeps T' b c) (hT:∀ i∈T',i∈T∨a.heap.size≤i):Keeps T a c:=
 ⟨k.os.trans h.os,k.tape.trans h.tape,k.output.trans h.output,Nat.le_trans h.size k.size,fun i hi hn=>(k.block i (Nat.lt_of_lt_of_le hi h.size) (fun x=>by
  rcases hT i x with h1 | h1
  ·exact hn h1
  ·omega)).trans (h.block i hi hn)⟩
theorem Keeps.drewN (T:List Nat) (w:World) (n:Nat):Keeps T w (w.drewN n):=⟨rfl,rfl,rfl,Nat.le_refl _,fun _ _ _=>rfl⟩
theorem Keeps.drew (T:List Nat) (w:World):Keeps T w w.drew:=⟨rfl,rfl,rfl,Nat.le_refl _,fun _ _ _=>rfl⟩
theorem Keeps.alloc (T:List Nat) (w:World) (o:Obj):Keeps T w (w.alloc o):=⟨rfl,rfl,rfl,by simp,fun i hi _=>Go.RowKit.Below.heap_alloc w o i hi⟩
theorem Keeps.setCell (w:World) (a:Addr) (v:Value):Keeps [a.block] w (w.setCell a v):=⟨rfl,rfl,rfl,by simp [World.setCell],fun i _ hn=>Go.RowKit.Below.heap_setCell w a v i (by simpa using hn)⟩
theorem Keeps.blk (w:World) (r:Nat) (o:Obj):Keeps [r] w (blk w r o):=⟨rfl,rfl,rfl,by simp [YtgjomknpjigkhaaGreatDoor.blk],fun i _ hn=>blk_other o (by simpa using hn)⟩
def CellsAt (w:World) (b:Nat) (cs:Array Value):Prop:=∃ t,w.heap[b]?=some (.cells cs t (0,0))
theorem CellsAt.cell {w:World} {b:Nat} {cs:Array Value} (h:CellsAt w b cs) (i:Nat):w.cell? ⟨b,i,none⟩=cs[i]?:=by
 obtain ⟨t,h⟩:=h
 simp [World.cell?,h]
theorem CellsAt.frozen {w:World} {b:Nat} {cs:Array Value} (h:CellsAt w b cs) (i:Nat):w.frozen? ⟨b,i,none⟩=false:=by
 obtain ⟨t,h⟩:=h
 simp [World.frozen?,h]
theorem CellsAt.lt {w:World} {b:Nat} {cs:Array Value} (h:CellsAt w b cs):b<w.heap.size:=by
 obtain ⟨t,h⟩:=h
 exact (Array.getElem?_eq_some_iff.1 h).1
theorem CellsAt.of_heap {w w':World} {b:Nat} {cs:Array Value} (h:CellsAt w b cs) (e:w'.heap[b]?=w.heap[b]?):CellsAt w' b cs:=by
 obtain ⟨t,h⟩:=h
 exact ⟨t,e.trans h⟩
theorem CellsAt.setCell {w:World} {b:Nat} {cs:Array Value} (h:CellsAt w b cs) (i:Nat) (v:Value):CellsAt (w.setCell ⟨b,i,none⟩ v) b (cs.setIfInBounds i v):=by
 obtain ⟨t,h⟩:=h
 exact ⟨t,by simp [World.setCell,Array.getElem?_modify,h]⟩
theorem CellsAt.new (w:World) (cs:Array Value) (t:TypeId):CellsAt (w.alloc (.cells cs t)) w.heap.size cs:=⟨t,(MapKept.heap_alloc w _).1⟩
theorem CellsAt.keeps {w w':World} {b:Nat} {cs:Array Value} {T:List Nat} (h:CellsAt w b cs) (k:Keeps T w w') (hb:b∉T):CellsAt w' b cs:=h.of_heap (k.block b h.lt hb)
def RowIs (w:World) (b:Nat) (xs:List Int):Prop:=∃ cs,CellsAt w b cs∧∀ (i:Nat) (x:Int),xs[i]?=some x→cs[i]?=some (.int .i64 x)
theorem RowIs.of_heap {w w':World} {b:Nat} {xs:List Int} (h:RowIs w b xs) (e:w'.heap[b]?=w.heap[b]?):RowIs w' b xs:=by
 obtain ⟨cs,h1,h2⟩:=h
 exact ⟨cs,h1.of_heap e,h2⟩
theorem RowIs.lt {w:World} {b:Nat} {xs:List Int} (h:RowIs w b xs):b<w.heap.size:=by
 obtain ⟨cs,h1,h2⟩:=h
 exact h1.lt
theorem RowIs.cell {w:World} {b:Nat} {xs:List Int} (h:RowIs w b xs) {i:Nat} {x:Int} (hx:xs[i]?=some x):w.cell? ⟨b,i,none⟩=some (.int .i64 x):=by
 obtain ⟨cs,h1,h2⟩:=h
 rw [h1.cell,h2 i x hx]
structure SB where
 b:Nat
 bo:Nat
 bp:Nat
 rn:Nat
 ru:Nat
 rk:Nat
 co:Nat
 cp:Nat
def SB.own (B:SB):List Nat:=[B.b,B.bo,B.bp,B.rn,B.ru,B.rk]
structure StoreAt (w:World) (B:SB) (S:ST):Prop where
 head:CellsAt w B.b #[.slice (some ⟨B.bo,0,none⟩) S.order.length B.co,.slice (some ⟨B.bp,0,none⟩) S.place.length B.cp,.map (some B.rn),.map (some B.ru),.int .i64 S.next,.map (some B.rk)]
 order:RowIs w B.bo S.order
 place:RowIs w B.bp S.place
 nodes:MapIs eI eT w B.rn S.N
 numbers:MapIs eT eI w B.ru S.U
 known:MapIs eT eI w B.rk S.K
 apart:B.own.Nodup
theorem StoreAt.of_heap {w w':World} {B:SB} {S:ST} (h:StoreAt w B S) (e:∀ i∈B.own,w'.heap[i]?=w.heap[i]?):StoreAt w' B S:=
 ⟨h.head.of_heap (e _ (by simp [SB.own])),h.order.of_heap (e _ (by simp [SB.own])),h.place.of_heap (e _ (by simp [SB.own])),h.nodes.of_heap (e _ (by simp [SB.own])),h.numbers.of_heap (e _ (by simp [SB.own])),h.known.of_heap (e _ (by simp [SB.own])),h.apart⟩
theorem StoreAt.lt {w:World} {B:SB} {S:ST} (h:StoreAt w B S):∀ i∈B.own,i<w.heap.size:=by
 intro i hi
 simp only [SB.own,List.mem_cons,List.not_mem_nil,or_false] at hi
 rcases hi with rfl | rfl | rfl | rfl | rfl | rfl
 ·exact h.head.lt
 ·exact h.order.lt
 ·exact h.place.lt
 ·exact h.nodes.lt
 ·exact h.numbers.lt
 ·exact h.known.lt
theorem StoreAt.keeps {w w':World} {B:SB} {S:ST} {T:List Nat} (h:StoreAt w B S) (k:Keeps T w w') (hT:∀ i∈B.own,i∉T):StoreAt w' B S:=
 h.of_heap fun i hi=>k.block i (h.lt i hi) (hT i hi)
theorem StoreAt.drewN {w:World} {B:SB} {S:ST} (h:StoreAt w B S) (n:Nat):StoreAt (w.drewN n) B S:=h.of_heap fun _ _=>rfl
theorem StoreAt.alloc {w:World} {B:SB} {S:ST} (h:StoreAt w B S) (o:Obj):StoreAt (w.alloc o) B S:=h.keeps (Keeps.alloc [] w o) (by simp)
theorem StoreAt.drew {w:World} {B:SB} {S:ST} (h:StoreAt w B S):StoreAt w.drew B S:=h.of_heap fun _ _=>rfl
theorem SB.own_ne {B:SB} (h:B.own.Nodup):B.b≠B.bo∧B.b≠B.bp∧B.b≠B.rn∧B.b≠B.ru∧B.b≠B.rk∧B.bo≠B.bp∧B.bo≠B.rn∧B.bo≠B.ru∧B.bo≠B.rk∧B.bp≠B.rn∧B.bp≠B.ru∧B.bp≠B.rk∧B.rn≠B.ru∧B.rn≠B.rk∧B.ru≠B.rk:=by
 simp only [SB.own,List.nodup_cons,List.mem_cons,List.not_mem_nil,or_false,not_or] at h
 obtain ⟨⟨h1,h2,h3,h4,h5⟩,⟨h6,h7,h8,h9⟩,⟨h10,h11,h12⟩,⟨h13,h14⟩,h15,_⟩:=h
 exact ⟨h1,h2,h3,h4,h5,h6,h7,h8,h9,h10,h11,h12,h13,h14,h15⟩
theorem StoreAt.nodesBlk {w:World} {B:SB} {S:ST} (h:StoreAt w B S) {o:Obj} {N:List (Int×Tri)} (hm:MapIs eI eT (blk w B.rn o) B.rn N):StoreAt (blk w B.rn o) B { S with N:=N }:=by
 obtain ⟨h1,h2,h3,h4,h5,h6,h7,h8,h9,h10,h11,h12,h13,h14,h15⟩:=SB.own_ne h.apart
 exact ⟨h.head.of_heap (blk_other o h3),h.order.of_heap (blk_other o h7),h.place.of_heap (blk_other o h10),hm,h.numbers.of_heap (blk_other o h13.symm),h.known.of_heap (blk_other o h14.symm),h.apart⟩
theorem StoreAt.numbersBlk {w:World} {B:SB} {S:ST} (h:StoreAt w B S) {o:Obj} {U:List (Tri×Int)} (hm:MapIs eT eI (blk w B.ru o) B.ru U):StoreAt (blk w B.ru o) B { S with U:=U }:=by
 obtain ⟨h1,h2,h3,h4,h5,h6,h7,h8,h9,h10,h11,h12,h13,h14,h15⟩:=SB.own_ne h.apart
 exact ⟨h.head.of_heap (blk_other o h4),h.order.of_heap (blk_other o h8),h.place.of_heap (blk_other o h11),h.nodes.of_heap (blk_other o h13),hm,h.known.of_heap (blk_other o h15.symm),h.apart⟩
theorem StoreAt.knownBlk {w:World} {B:SB} {S:ST} (h:StoreAt w B S) {o:Obj} {K:List (Tri×Int)} (hm:MapIs eT eI (blk w B.rk o) B.rk K):StoreAt (blk w B.rk o) B { S with K:=K }:=by
 obtain ⟨h1,h2,h3,h4,h5,h6,h7,h8,h9,h10,h11,h12,h13,h14,h15⟩:=SB.own_ne h.apart
 exact ⟨h.head.of_heap (blk_other o h5),h.order.of_heap (blk_other o h9),h.place.of_heap (blk_other o h12),h.nodes.of_heap (blk_other o h14),h.numbers.of_heap (blk_other o h15),hm,h.apart⟩
theorem StoreAt.nextCell {w:World} {B:SB} {S:ST} (h:StoreAt w B S) (n:Int):StoreAt (w.setCell ⟨B.b,4,none⟩ (.int .i64 n)) B { S with next:=n }:=by
 obtain ⟨h1,h2,h3,h4,h5,h6,h7,h8,h9,h10,h11,h12,h13,h14,h15⟩:=SB.own_ne h.apart
 have e:∀ i,i≠B.b→(w.setCell ⟨B.b,4,none⟩ (.int .i64 n)).heap[i]?=w.heap[i]?:=fun i hi=>Go.RowKit.Below.heap_setCell w _ _ i hi
 have hd:=h.head.setCell 4 (.int .i64 n)
 exact ⟨by simpa using hd,h.order.of_heap (e _ h1.symm),h.place.of_heap (e _ h2.symm),h.nodes.of_heap (e _ h3.symm),h.numbers.of_heap (e _ h4.symm),h.known.of_heap (e _ h5.symm),h.apart⟩
end
end Go.Proofs.YtgjomknpjigkhaaGreatDoor
