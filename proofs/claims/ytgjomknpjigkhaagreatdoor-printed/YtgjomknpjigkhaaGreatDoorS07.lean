import Derived.Test.YtgjomknpjigkhaaGreatDoorS03
import Derived.RangeFuncNested
import Derived.RangeFuncBound
import Derived.RangeFuncCalls
import Derived.RangeFuncLeaves
import Derived.Shelf.Abstract
import Derived.Shelf.RegionOpen
import Derived.OwnWalkIn
import Derived.TacticsInMore
import Derived.LoopNIn
import Derived.LoopIn
import Derived.Maps.AppendAt
import Derived.WalkSpells
namespace Go.Proofs.YtgjomknpjigkhaaGreatDoor
set_option maxRecDepth 100000
set_option maxHeartbeats 4000000
section
open Go.RowKit
theorem Keeps.putObj (w:World) (l:Nat) (o:Obj):Keeps [l] w (w.putObj l o):=⟨rfl,rfl,rfl,by simp,fun i _ hn=>World.putObj_heap_other (by simpa using hn)⟩
theorem Keeps.below {T:List Nat} {w w':World} {B:Nat} (h:Keeps T w w') (hB:B≤w.heap.size) (hT:∀ t∈T,B≤t):Go.RowKit.Below B w w':=
 ⟨h.os,h.tape,h.output,h.size,fun k hk=>h.block k (by omega) (fun x=>by have:=hT _ x;omega)⟩
def Iter {α:Type} (gf:FuncId) (lb:Array Value) (encs:α→Array Value) (cond:List α→α→Prop) (Good:List α→Prop) (T:List Nat) (w:World):Prop:=
 ∀ (n l:Nat) (J:List α→World→Prop) (W:World),w.heap.size≤l→l<W.heap.size→Go.RowKit.Below w.heap.size w W →
  (∀ pre W1 W2,J pre W1→Go.RowKit.Below W.heap.size W1 W2→J pre W2) →
  (∀ pre x W1,J pre W1→cond pre x→YieldAt Fence.wide (n - 1) Tryz.prog l (encs x) W1 fun e W'=>e=.returned (.bool true)∧J (pre++[x]) W'∧Keeps (l :: T) W1 W') →
  J [] W →
  CallsIn Fence.wide n Tryz.prog gf (#[.func (.yield l) #[] #[]]++lb) W fun e W'=>(∃ v,e=.returned v)∧∃ xs,Good xs∧J xs W'∧Keeps (l :: T) W W'
def bodyPostJ (I:World→Prop) (T:List Nat) (W:World):Exit→Act→World→Prop
 | .normal,_,W'=>I W'∧Keeps T W W'
 | _,_,_=>False
theorem range_law {α:Type} {n:Nat} {g:Operand} {ps:Array Tmp} {assign body:Code} {Q:Exit→Act→World→Prop} {a:Act} {w:World} {gf:Nat} {lb:Array Value} (hg:a.eval g=.func (.func gf) #[] lb)
  (eg:∀ args w,(callFunc gf args).run Tryz.prog w=.ok (.enter gf args) w) {encs:α→Array Value} {cond:List α→α→Prop} {Good:List α→Prop} {T:List Nat} (hT:∀ t∈T,t<w.heap.size) (hseq:Iter gf lb encs cond Good T w) (hps:∀ x,(encs x).size=ps.size)
  (I:List α→World→Prop) (hI:∀ pre W1 W2,I pre W1→Go.RowKit.Below w.heap.size W1 W2→I pre W2) (h0:I [] w) (Ax:α→Act→World→Prop) (hAx:∀ x a' W1 W2,Ax x a' W1→Keeps [w.heap.size+1] W1 W2→Ax x a' W2)
  (hassign:∀ (l:Nat) (pre:List α) (x:α) (W:World) (K:Act→World→Prop),w.heap.size+1<W.heap.size→I pre W→cond pre x→(∀ a' W',Ax x a' W'→Keeps [] W W'→K a' W') →
   assign.wpIn (Fence.wide.inRound l) (n - 1 - 1) Tryz.prog (Exit.then K (fun _ _ _=>False)) { tmps:=(ps.zip (encs x)).foldl (fun t (p,v)=>t.setIfInBounds p v) a.tmps,defers:=[] } W)
  (hbody:∀ (l:Nat) (pre:List α) (x:α) (a':Act) (W:World),w.heap.size+1<W.heap.size→I pre W→cond pre x→Ax x a' W→body.wpIn (Fence.wide.inRound l) (n - 1 - 1) Tryz.prog (bodyPostJ (I (pre++[x])) T W) a' W)
  (hdone:∀ (xs:List α) (W:World),Good xs→I xs W→Keeps T w W→w.heap.size<W.heap.size→W.heap[w.heap.size]?=some (.deferred (some []))→Q .normal { a with defers:={ target:=.collected w.heap.size,args:=#[] } :: a.defers } W) :
  (Code.rangeFunc g ps assign body).wpIn Fence.wide n Tryz.prog Q a w:=by
 refine wpIn_rangeFunc ?_
 intro fn hfn
 show ∃ l mark w₁ d w₁' f args w₂,(Instr.enterLoop fn a.tmps ps assign body none).run Tryz.prog w=_∧_
 let rec1:LoopState→Loop:=fun st=>{ state:=st,pending:=none,fn,tmps:=a.tmps,params:=ps,assign,body,defers:=w.heap.size }
 obtain ⟨W1,hW1⟩:∃ W1,(w.alloc (.deferred (some []))).alloc (.loop (rec1 .ready))=W1:=⟨_,rfl⟩
 have k1:Keeps [] w W1:=by rw [←hW1];exact (Keeps.alloc _ _ _).trans (Keeps.alloc _ _ _)
 have hD1:W1.heap[w.heap.size]?=some (.deferred (some [])):=by
  rw [←hW1];exact (Go.RowKit.Below.heap_alloc _ _ _ (by simp)).trans (World.alloc_heap_new w _)
 have hL1:W1.heap[w.heap.size+1]?=some (.loop (rec1 .ready)):=by
  rw [←hW1];have:=World.alloc_heap_new (w.alloc (.deferred (some []))) (.loop (rec1 .ready));rwa [World.size_alloc] at this
 have hs1:W1.heap.size=w.heap.size+1+1:=by rw [←hW1];simp
 refine ⟨w.heap.size+1,[{ target:=.collected w.heap.size,args:=#[] }],W1,{ target:=.fn (.func gf) lb,args:=#[.func (.yield (w.heap.size+1)) #[] #[]] },W1,gf,
  #[.func (.yield (w.heap.size+1)) #[] #[]]++lb,W1,?_,?_,fun _ _=>trivial,?_,fun h=>(nomatch h),?_⟩
 ·rw [←hW1];exact run_enterLoop_outer _ _ _ _ _
 ·simp only [resolve,hg]
  simp [go_sem]
 ·simp [invoke,go_sem,eg]
 ·refine (hseq (n - 1) (w.heap.size+1) (fun pre W=>I pre W∧W.heap[w.heap.size+1]?=some (.loop (rec1 .ready))∧W.heap[w.heap.size]?=some (.deferred (some []))) W1 (by omega) (by omega)
   (k1.below (Nat.le_refl _) (by simp)) ?_ ?_ ⟨hI _ _ _ h0 (k1.below (Nat.le_refl _) (by simp)),hL1,hD1⟩).mono ?_
  ·rintro pre A B ⟨i,l,d⟩ hb
   exact ⟨hI _ _ _ i (hb.mono (by omega)),(hb.block _ (by omega)).trans l,(hb.block _ (by omega)).trans d⟩
  ·rintro pre x W ⟨hi,hl,hd⟩ hc
   have hlt:w.heap.size+1<W.heap.size:=(Array.getElem?_eq_some_iff.1 hl).1
   refine ⟨fn,_,assign,body,run_yield (P:=Tryz.prog) (args:=encs x) hl (hps x),roundIn_of_wpIn trivial (hassign _ pre x W _ hlt hi hc ?_)⟩
   intro a' W' hax hk
   have hl':W'.heap[w.heap.size+1]?=some (.loop (rec1 .ready)):=(hk.block _ hlt (by simp)).trans hl
   have hd':W'.heap[w.heap.size]?=some (.deferred (some [])):=(hk.block _ (by omega) (by simp)).trans hd
   have hlt':w.heap.size+1<W'.heap.size:=(Array.getElem?_eq_some_iff.1 hl').1
   have hwl:w.heap.size≤W.heap.size:=by omega
   have hi':I pre W':=hI _ _ _ hi (hk.below hwl (by simp))
   have k2:=Keeps.putObj W' (w.heap.size+1) (.loop (rec1 .busy))
   have hl2:(W'.putObj (w.heap.size+1) (.loop (rec1 .busy))).heap[w.heap.size+1]?=some (.loop (rec1 .busy)):=World.putObj_heap_same hlt'
   have hd2:(W'.putObj (w.heap.size+1) (.loop (rec1 .busy))).heap[w.heap.size]?=some (.deferred (some [])):=(World.putObj_heap_other (by omega)).trans hd'
   refine ⟨_,run_beginRound hl' rfl,?_⟩
   refine wpIn_mono (hbody _ pre x a' (W'.putObj (w.heap.size+1) (.loop (rec1 .busy))) (Array.getElem?_eq_some_iff.1 hl2).1 (hI _ _ _ hi' (k2.below (by omega) (by simp))) hc (hAx _ _ _ _ hax k2)) ?_
   rintro e a3 W3 hp
   cases e with
   | normal=>
    obtain ⟨hi3,k3⟩:=hp
    have hl3:W3.heap[w.heap.size+1]?=some (.loop (rec1 .busy)):=(k3.block _ (Array.getElem?_eq_some_iff.1 hl2).1 (fun x=>by have:=hT _ x;omega)).trans hl2
    have hd3:W3.heap[w.heap.size]?=some (.deferred (some [])):=(k3.block _ (Array.getElem?_eq_some_iff.1 hd2).1 (fun x=>by have:=hT _ x;omega)).trans hd2
    have hlt3:=(Array.getElem?_eq_some_iff.1 hl3).1
    have k4:=Keeps.putObj W3 (w.heap.size+1) (.loop (rec1 .ready))
    refine ⟨_,_,run_endRound none hl3,rfl,⟨hI _ _ _ hi3 (k4.below (by omega) (by simp)),World.putObj_heap_same hlt3,(World.putObj_heap_other (by omega)).trans hd3⟩,?_⟩
    exact (((hk.mono (by simp)).trans (k2.mono (by simp))).trans (k3.mono (fun i hi=>List.mem_cons_of_mem _ hi))).trans (k4.mono (by simp))
   | ret=>exact hp.elim
   | exit id=>exact hp.elim
   | goto t=>exact hp.elim
   | panic c=>exact hp.elim
   | outgrown=>exact hp.elim
  ·rintro e W2 ⟨⟨v,rfl⟩,xs,hG,⟨hi,hl,hd⟩,k2⟩
   have k5:=Keeps.putObj W2 (w.heap.size+1) (.loop (rec1 .exhausted))
   have hlt2:=(Array.getElem?_eq_some_iff.1 hl).1
   refine ⟨none,_,run_endLoop hl (by simp [rec1]),?_⟩
   refine hdone xs _ hG (hI _ _ _ hi (k5.below (by omega) (by simp))) ?_ (by simp;omega) ((World.putObj_heap_other (by omega)).trans hd)
   refine (k1.mono (by simp)).trans_new (k2.trans (k5.mono (by simp))) ?_
   intro i hi
   rcases List.mem_cons.1 hi with e | x
   ·exact .inr (by omega)
   ·exact .inl x
end
section
open Go.RowKit
structure Grows (b:Nat) (T:List Nat) (w w':World):Prop where
 os:w'.os=w.os
 tape:w'.tape=w.tape
 output:w'.output=w.output
 size:w.heap.size≤w'.heap.size
 block:∀ i,i<w.heap.size→i∉T→(i<b∨∀ cs t f,w.heap[i]?≠some (.cells cs t f))→w'.heap[i]?=w.heap[i]?
theorem Grows.trans {b:Nat} {T:List Nat} {x y z:World} (h:Grows b T x y) (k:Grows b T y z):Grows b T x z:=
 ⟨k.os.trans h.os,k.tape.trans h.tape,k.output.trans h.output,Nat.le_trans h.size k.size,fun i hi hT hc=>by
  have e:=h.block i hi hT hc
  refine (k.block i (Nat.lt_of_lt_of_le hi h.size) hT ?_).trans e
  rcases hc with hc | hc
  ·exact .inl hc
  ·rw [e];exact .inr hc⟩
theorem Grows.mono {b:Nat} {T T':List Nat} {w w':World} (h:Grows b T w w') (hT:∀ i∈T,i∈T'):Grows b T' w w':=
 ⟨h.os,h.tape,h.output,h.size,fun i hi hn hc=>h.block i hi (fun x=>hn (hT i x)) hc⟩
theorem Keeps.grows {b:Nat} {T T':List Nat} {w w':World} (h:Keeps T w w') (hT:∀ i∈T,i∈T'):Grows b T' w w':=
 ⟨h.os,h.tape,h.output,h.size,fun i hi hn _=>h.block i hi (fun x=>hn (hT i x))⟩
theorem Keeps.growsRow {b:Nat} {T T':List Nat} {w w':World} (h:Keeps T w w') (hT:∀ i∈T,i∈T'∨(b≤i∧∃ cs t f,w.heap[i]?=some (.cells cs t f))):Grows b T' w w':=
 ⟨h.os,h.tape,h.output,h.size,fun i hi hn hc=>h.block i hi (fun x=>by
  rcases hT i x with h1 | ⟨h1,cs,t,f,h2⟩
  ·exact hn h1
  ·rcases hc with hc | hc
   ·omega
   ·exact hc _ _ _ h2)⟩
theorem Keeps.trans_grows {T T':List Nat} {a b c:World} (h:Keeps T a b) (k:Grows a.heap.size T' b c) (hT:∀ i∈T',i∈T∨a.heap.size≤i):Keeps T a c:=
 ⟨k.os.trans h.os,k.tape.trans h.tape,k.output.trans h.output,Nat.le_trans h.size k.size,fun i hi hn=>(k.block i (Nat.lt_of_lt_of_le hi h.size) (fun x=>by
  rcases hT i x with h1 | h1
  ·exact hn h1
  ·omega) (.inl hi)).trans (h.block i hi hn)⟩
structure Still (b:Nat) (w w':World):Prop where
 os:w'.os=w.os
 tape:w'.tape=w.tape
 output:w'.output=w.output
 size:w.heap.size≤w'.heap.size
 block:∀ i,i<w.heap.size→(i<b∨∃ cs t f,w.heap[i]?=some (.cells cs t f))→w'.heap[i]?=w.heap[i]?
theorem Still.mono {b b':Nat} {w w':World} (h:Still b w w') (hb:b'≤b):Still b' w w':=
 ⟨h.os,h.tape,h.output,h.size,fun i hi hc=>h.block i hi (hc.imp (fun x=>by omega) id)⟩
theorem Keeps.still {b:Nat} {T:List Nat} {w w':World} (h:Keeps T w w') (hT:∀ i∈T,b≤i∧∀ cs t f,w.heap[i]?≠some (.cells cs t f)):Still b w w':=
 ⟨h.os,h.tape,h.output,h.size,fun i hi hc=>h.block i hi (fun x=>by
  obtain ⟨h1,h2⟩:=hT i x
  rcases hc with hc | ⟨cs,t,f,hc⟩
  ·omega
  ·exact h2 _ _ _ hc)⟩
def IterG {α:Type} (gf:FuncId) (lb:Array Value) (encs:α→Array Value) (cond:List α→α→Prop) (Good:List α→Prop) (T:List Nat) (w:World):Prop:=
 ∀ (n l:Nat) (J:List α→World→Prop) (W:World),w.heap.size≤l→l<W.heap.size→Go.RowKit.Below w.heap.size w W →
  (∀ pre W1 W2,J pre W1→Still W.heap.size W1 W2→J pre W2) →
  (∀ pre x W1,J pre W1→cond pre x→YieldAt Fence.wide (n - 1) Tryz.prog l (encs x) W1 fun e W'=>e=.returned (.bool true)∧J (pre++[x]) W'∧Grows w.heap.size (l :: T) W1 W') →
  J [] W →
  CallsIn Fence.wide n Tryz.prog gf (#[.func (.yield l) #[] #[]]++lb) W fun e W'=>(∃ v,e=.returned v)∧∃ xs,Good xs∧J xs W'∧Grows w.heap.size (l :: T) W W'
def bodyPostG (I:World→Prop) (b:Nat) (T:List Nat) (W:World):Exit→Act→World→Prop
 | .normal,_,W'=>I W'∧Grows b T W W'
 | _,_,_=>False
theorem range_lawG {α:Type} {n:Nat} {g:Operand} {ps:Array Tmp} {assign body:Code} {Q:Exit→Act→World→Prop} {a:Act} {w:World} {gf:Nat} {lb:Array Value} (hg:a.eval g=.func (.func gf) #[] lb)
  (eg:∀ args w,(callFunc gf args).run Tryz.prog w=.ok (.enter gf args) w) {encs:α→Array Value} {cond:List α→α→Prop} {Good:List α→Prop} {T:List Nat} (hT:∀ t∈T,t<w.heap.size) (hseq:IterG gf lb encs cond Good T w) (hps:∀ x,(encs x).size=ps.size)
  (I:List α→World→Prop) (hI:∀ pre W1 W2,I pre W1→Still w.heap.size W1 W2→I pre W2) (h0:I [] w) (Ax:α→Act→World→Prop) (hAx:∀ x a' W1 W2,Ax x a' W1→Keeps [w.heap.size+1] W1 W2→Ax x a' W2)
  (hassign:∀ (l:Nat) (pre:List α) (x:α) (W:World) (K:Act→World→Prop),w.heap.size+1<W.heap.size→I pre W→cond pre x→(∀ a' W',Ax x a' W'→Keeps [] W W'→K a' W') →
   assign.wpIn (Fence.wide.inRound l) (n - 1 - 1) Tryz.prog (Exit.then K (fun _ _ _=>False)) { tmps:=(ps.zip (encs x)).foldl (fun t (p,v)=>t.setIfInBounds p v) a.tmps,defers:=[] } W)
  (hbody:∀ (l:Nat) (pre:List α) (x:α) (a':Act) (W:World),w.heap.size+1<W.heap.size→I pre W→cond pre x→Ax x a' W→body.wpIn (Fence.wide.inRound l) (n - 1 - 1) Tryz.prog (bodyPostG (I (pre++[x])) w.heap.size T W) a' W)
  (hdone:∀ (xs:List α) (W:World),Good xs→I xs W→Keeps T w W→w.heap.size<W.heap.size→W.heap[w.heap.size]?=some (.deferred (some []))→Q .normal { a with defers:={ target:=.collected w.heap.size,args:=#[] } :: a.defers } W) :
  (Code.rangeFunc g ps assign body).wpIn Fence.wide n Tryz.prog Q a w:=by
 refine wpIn_rangeFunc ?_
 intro fn hfn
 show ∃ l mark w₁ d w₁' f args w₂,(Instr.enterLoop fn a.tmps ps assign body none).run Tryz.prog w=_∧_
 let rec1:LoopState→Loop:=fun st=>{ state:=st,pending:=none,fn,tmps:=a.tmps,params:=ps,assign,body,defers:=w.heap.size }
 obtain ⟨W1,hW1⟩:∃ W1,(w.alloc (.deferred (some []))).alloc (.loop (rec1 .ready))=W1:=⟨_,rfl⟩
 have k1:Keeps [] w W1:=by rw [←hW1];exact (Keeps.alloc _ _ _).trans (Keeps.alloc _ _ _)
 have hD1:W1.heap[w.heap.size]?=some (.deferred (some [])):=by
  rw [←hW1];exact (Go.RowKit.Below.heap_alloc _ _ _ (by simp)).trans (World.alloc_heap_new w _)
 have hL1:W1.heap[w.heap.size+1]?=some (.loop (rec1 .ready)):=by
  rw [←hW1];have:=World.alloc_heap_new (w.alloc (.deferred (some []))) (.loop (rec1 .ready));rwa [World.size_alloc] at this
 have hs1:W1.heap.size=w.heap.size+1+1:=by rw [←hW1];simp
 refine ⟨w.heap.size+1,[{ target:=.collected w.heap.size,args:=#[] }],W1,{ target:=.fn (.func gf) lb,args:=#[.func (.yield (w.heap.size+1)) #[] #[]] },W1,gf,
  #[.func (.yield (w.heap.size+1)) #[] #[]]++lb,W1,?_,?_,fun _ _=>trivial,?_,fun h=>(nomatch h),?_⟩
 ·rw [←hW1];exact run_enterLoop_outer _ _ _ _ _
 ·simp only [resolve,hg]
  simp [go_sem]
 ·simp [invoke,go_sem,eg]
 ·refine (hseq (n - 1) (w.heap.size+1) (fun pre W=>I pre W∧W.heap[w.heap.size+1]?=some (.loop (rec1 .ready))∧W.heap[w.heap.size]?=some (.deferred (some []))) W1 (by omega) (by omega)
   (k1.below (Nat.le_refl _) (by simp)) ?_ ?_ ⟨hI _ _ _ h0 (k1.still (by simp)),hL1,hD1⟩).mono ?_
  ·rintro pre A B ⟨i,l,d⟩ hb
   exact ⟨hI _ _ _ i (hb.mono (by omega)),(hb.block _ (Array.getElem?_eq_some_iff.1 l).1 (.inl (by omega))).trans l,(hb.block _ (Array.getElem?_eq_some_iff.1 d).1 (.inl (by omega))).trans d⟩
  ·rintro pre x W ⟨hi,hl,hd⟩ hc
   have hlt:w.heap.size+1<W.heap.size:=(Array.getElem?_eq_some_iff.1 hl).1
   refine ⟨fn,_,assign,body,run_yield (P:=Tryz.prog) (args:=encs x) hl (hps x),roundIn_of_wpIn trivial (hassign _ pre x W _ hlt hi hc ?_)⟩
   intro a' W' hax hk
   have hl':W'.heap[w.heap.size+1]?=some (.loop (rec1 .ready)):=(hk.block _ hlt (by simp)).trans hl
   have hd':W'.heap[w.heap.size]?=some (.deferred (some [])):=(hk.block _ (by omega) (by simp)).trans hd
   have hlt':w.heap.size+1<W'.heap.size:=(Array.getElem?_eq_some_iff.1 hl').1
   have hi':I pre W':=hI _ _ _ hi (hk.still (by simp))
   have k2:=Keeps.putObj W' (w.heap.size+1) (.loop (rec1 .busy))
   have hl2:(W'.putObj (w.heap.size+1) (.loop (rec1 .busy))).heap[w.heap.size+1]?=some (.loop (rec1 .busy)):=World.putObj_heap_same hlt'
   have hd2:(W'.putObj (w.heap.size+1) (.loop (rec1 .busy))).heap[w.heap.size]?=some (.deferred (some [])):=(World.putObj_heap_other (by omega)).trans hd'
   refine ⟨_,run_beginRound hl' rfl,?_⟩
   refine wpIn_mono (hbody _ pre x a' (W'.putObj (w.heap.size+1) (.loop (rec1 .busy))) (Array.getElem?_eq_some_iff.1 hl2).1 (hI _ _ _ hi' (k2.still (by simp only [List.mem_singleton];rintro i rfl;exact ⟨by omega,by rw [hl'];intro _ _ _ e;cases e⟩))) hc (hAx _ _ _ _ hax k2)) ?_
   rintro e a3 W3 hp
   cases e with
   | normal=>
    obtain ⟨hi3,k3⟩:=hp
    have hl3:W3.heap[w.heap.size+1]?=some (.loop (rec1 .busy)):=(k3.block _ (Array.getElem?_eq_some_iff.1 hl2).1 (fun x=>by have:=hT _ x;omega) (.inr (by rw [hl2];intro _ _ _ e;cases e))).trans hl2
    have hd3:W3.heap[w.heap.size]?=some (.deferred (some [])):=(k3.block _ (Array.getElem?_eq_some_iff.1 hd2).1 (fun x=>by have:=hT _ x;omega) (.inr (by rw [hd2];intro _ _ _ e;cases e))).trans hd2
    have hlt3:=(Array.getElem?_eq_some_iff.1 hl3).1
    have k4:=Keeps.putObj W3 (w.heap.size+1) (.loop (rec1 .ready))
    refine ⟨_,_,run_endRound none hl3,rfl,⟨hI _ _ _ hi3 (k4.still (by simp only [List.mem_singleton];rintro i rfl;exact ⟨by omega,by rw [hl3];intro _ _ _ e;cases e⟩)),World.putObj_heap_same hlt3,(World.putObj_heap_other (by omega)).trans hd3⟩,?_⟩
    exact (((hk.grows (by simp)).trans (k2.grows (by simp))).trans (k3.mono (fun i hi=>List.mem_cons_of_mem _ hi))).trans (k4.grows (by simp))
   | ret=>exact hp.elim
   | exit id=>exact hp.elim
   | goto t=>exact hp.elim
   | panic c=>exact hp.elim
   | outgrown=>exact hp.elim
  ·rintro e W2 ⟨⟨v,rfl⟩,xs,hG,⟨hi,hl,hd⟩,k2⟩
   have k5:=Keeps.putObj W2 (w.heap.size+1) (.loop (rec1 .exhausted))
   have hlt2:=(Array.getElem?_eq_some_iff.1 hl).1
   refine ⟨none,_,run_endLoop hl (by simp [rec1]),?_⟩
   refine hdone xs _ hG (hI _ _ _ hi (k5.still (by simp only [List.mem_singleton];rintro i rfl;exact ⟨by omega,by rw [hl];intro _ _ _ e;cases e⟩))) ?_ (by simp;omega) ((World.putObj_heap_other (by omega)).trans hd)
   refine (k1.mono (T':=T) (by simp)).trans_grows (k2.trans (k5.grows (by simp))) ?_
   intro i hi
   rcases List.mem_cons.1 hi with e | x
   ·exact .inr (by omega)
   ·exact .inl x
end
section
open Go.RowKit
theorem RowIs.kept {w w':World} {b:Nat} {xs:List Int} {T:List Nat} (h:RowIs w b xs) (k:Keeps T w w') (hb:b∉T):RowIs w' b xs:=h.of_heap (k.block b h.lt hb)
theorem MapIs.kept {α β:Type} {ek:α→Value} {ev:β→Value} {w w':World} {r:Nat} {L:List (α×β)} {T:List Nat} (h:MapIs ek ev w r L) (k:Keeps T w w') (hb:r∉T):MapIs ek ev w' r L:=h.of_heap (k.block r h.lt hb)
theorem ownsRow_kept {w w':World} {base:Nat} {e:TypeId} {size n:Nat} {v:Value} {xs:List Value} {T:List Nat} (h:w.ownsRow base e size v n xs) (k:Keeps T w w') (hT:∀ i,v.ownBlock=some i→i∉T):w'.ownsRow base e size v n xs:=by
 obtain ⟨h1,h2⟩:=h
 refine ⟨h1,?_⟩
 rcases h2 with h2 | ⟨g,cap,cur,rfl,hg,hh,r⟩
 ·exact .inl h2
 ·exact .inr ⟨g,cap,cur,rfl,hg,(k.block g (Array.getElem?_eq_some_iff.1 hh).1 (hT g rfl)).trans hh,r⟩
theorem ownsRow_base {w:World} {base base':Nat} {e:TypeId} {size n:Nat} {v:Value} {xs:List Value} (h:w.ownsRow base e size v n xs) (hb:base'≤base):w.ownsRow base' e size v n xs:=by
 obtain ⟨h1,h2⟩:=h
 refine ⟨h1,?_⟩
 rcases h2 with h2 | ⟨g,cap,cur,rfl,hg,r⟩
 ·exact .inl h2
 ·exact .inr ⟨g,cap,cur,rfl,Nat.le_trans hb hg,r⟩
theorem ownsRow_cell {w:World} {base g n cap:Nat} {xs:List Int} (h:w.ownsRow base 3 1 (.slice (some ⟨g,0,none⟩) n cap) n (xs.map (Value.int .i64))) {i:Nat} {x:Int} (hx:xs[i]?=some x):w.cell? ⟨g,i,none⟩=some (.int .i64 x):=by
 obtain ⟨h1,h2⟩:=h
 rcases h2 with ⟨h2,_⟩ | ⟨g',cap',cur,e,hg,hh,hn,hm,hs,ht⟩
 ·cases h2
 ·cases e
  have hi:i<xs.length:=(List.getElem?_eq_some_iff.1 hx).1
  have e1:(cur.toList.take (n * 1))[i]?=some (.int .i64 x):=by rw [ht,List.getElem?_map,hx];rfl
  rw [List.length_map,Nat.mul_one] at h1
  rw [List.getElem?_take_of_lt (by omega)] at e1
  have:cur[i]?=some (.int .i64 x):=by rw [←Array.getElem?_toList];exact e1
  simp [World.cell?,hh,this]
theorem ownsRow_at {w:World} {base g n cap:Nat} {xs:List Value} (h:w.ownsRow base 3 1 (.slice (some ⟨g,0,none⟩) n cap) n xs):base≤g∧g<w.heap.size∧n≤cap∧cap≤maxLen:=by
 obtain ⟨h1,h2⟩:=h
 rcases h2 with ⟨h2,_⟩ | ⟨g',cap',cur,e,hg,hh,hn,hm,hs,ht⟩
 ·cases h2
 ·cases e
  exact ⟨hg,(Array.getElem?_eq_some_iff.1 hh).1,hn,hm⟩
theorem info3:(Tryz.prog.info? 3).map (fun i=>(i.zero,i.size,i.bytes))=some (some (.int .i64 0),1,8):=by kernel_rfl
def ints (xs:List Int):List Value:=xs.map (Value.int .i64)
theorem ints_get (xs:List Int) (j:Nat) (u:Value) (h:(ints xs)[j]?=some u):∃ x,xs[j]?=some x∧u=.int .i64 x:=by
 unfold ints at h
 rw [List.getElem?_map] at h
 obtain ⟨x,hx,e⟩:=Option.map_eq_some_iff.1 h
 exact ⟨x,hx,e.symm⟩
theorem ints_one (xs:List Int):∀ u∈ints xs,u.oneCell' = true:=ints_oneCell .i64 xs
theorem grownBy_keeps' {w w':World} {row:Option Nat} (h:w.grownBy w' row) (T:List Nat) (hr:∀ r,row=some r→r∈T∨w.heap.size≤r):Keeps T w w':=
 ⟨h.os,h.tape,h.output,h.size,fun i hi hn=>h.block i hi (fun e=>by
  rcases hr i e.symm with x | x
  ·exact hn x
  ·omega)⟩
theorem clone_calls {w:World} {g cap:Nat} {xs:List Int} (h:RowIs w g xs) (hl:xs.length≤1000000000) :
  Calls Tryz.prog 220 #[.slice (some ⟨g,0,none⟩) xs.length cap] w fun e w'=>∃ v,e=.returned v∧w'.ownsRow w.heap.size 3 1 v xs.length (ints xs)∧Keeps [] w w'∧v≠.slice none 0 0:=by
 obtain ⟨i0,hi,hz0,hz1,hz2⟩:=info_parts info3
 have heq:=fun (w:World) (n c:Nat)=>Lib.run_eql_slice_nil (P:=Tryz.prog) w 40 3 (some ⟨g,0,none⟩) n c 0 0 Tryz.underlying40
 have hk0:=Keeps.alloc [] w (.cells #[] 3)
 have hown:(w.alloc (.cells #[] 3)).ownsRow w.heap.size 3 1 (.slice (some ⟨w.heap.size,0,none⟩) 0 0) 0 []:=
  ⟨rfl,.inr ⟨w.heap.size,0,#[],rfl,Nat.le_refl _,(MapKept.heap_alloc w _).1,Nat.le_refl _,Nat.zero_le _,rfl,rfl⟩⟩
 have hcell:∀ (j:Nat) (u:Value),(ints xs)[j]?=some u→(w.alloc (.cells #[] 3)).cell? ((⟨g,0,none⟩:Addr).add j)=some u:=by
  intro j u hu
  obtain ⟨x,hx,rfl⟩:=ints_get xs j u hu
  rw [Addr.add_lit,Nat.zero_add]
  exact (h.of_heap (hk0.block g h.lt (by simp))).cell hx
 go_enter Tryz.func220,Tryz.ntmps220
 go_wp2_with (at_builtin;refine wpList_append_own _ rfl _ _ 40 rfl w.heap.size 3 i0 (.int .i64 0) 1 8 Tryz.underlying40 hi hz0 hz1 hz2 rfl (by decide) _ 0 [] rfl hown ⟨g,0,none⟩ xs.length cap (ints xs) rfl (by simp [ints]) hcell (ints_one xs) (by unfold maxLen;omega) (by omega) (by simp) ?_)
 intro v w1 h1 h2 h3
 have H1:=hide h1
 have H3:=hide h3
 clear h1 h3
 go_wp2
 go_ret
 refine ⟨v,rfl,by simpa using H1.out,hk0.trans_new (grownBy_keeps' h2 [w.heap.size] (fun r e=>?_)) (fun i hi=>?_),fun e=>?_⟩
 ·simp only [Value.ownBlock,Option.some.injEq] at e;exact .inl (by simp [e])
 ·simp only [List.mem_singleton] at hi;exact .inr (by omega)
 ·exact H3.out e
end
end Go.Proofs.YtgjomknpjigkhaaGreatDoor
