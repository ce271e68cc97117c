import Derived.Test.YtgjomknpjigkhaaGreatDoorU03
import Derived.RangeFuncNested
import Derived.RangeFuncBound
import Derived.RangeFuncCalls
import Derived.RangeFuncLeaves
import Derived.Shelf.Abstract
import Derived.Shelf.RegionOpen
import Derived.OwnWalkIn
import Derived.TacticsInMore
import Derived.LoopNIn
import Derived.LoopIn
import Derived.OrdersIn
namespace Go.Proofs.YtgjomknpjigkhaaGreatDoor
open Go.Proofs.Tryz
set_option maxRecDepth 100000
set_option maxHeartbeats 4000000
section
open Go.RowKit
theorem aQA.putObj (w:World) (l:Nat) (o:Obj):aQA [l] w (w.putObj l o):=⟨rfl,rfl,rfl,by simp,fun i _ hn=>World.putObj_heap_other (by simpa using hn)⟩
theorem aQA.below {T:List Nat} {w w':World} {B:Nat} (h:aQA T w w') (hB:B≤w.heap.size) (hT:∀ t∈T,B≤t):Go.RowKit.Below B w w':=
 ⟨h.os,h.tape,h.output,h.size,fun k hk=>h.block k (by omega) (fun x=>by have:=hT _ x;omega)⟩
def Iter {α:Type} (gf:FuncId) (lb:Array Value) (encs:α→Array Value) (cond:List α→α→Prop) (Good:List α→Prop) (T:List Nat) (w:World):Prop:=
 ∀ (n l:Nat) (J:List α→World→Prop) (W:World),w.heap.size≤l→l<W.heap.size→Go.RowKit.Below w.heap.size w W →
  (∀ pre W1 W2,J pre W1→Go.RowKit.Below W.heap.size W1 W2→J pre W2) →
  (∀ pre x W1,J pre W1→cond pre x→YieldAt Fence.wide (n - 1) prog l (encs x) W1 fun e W'=>e=.returned (.bool true)∧J (pre++[x]) W'∧aQA (l :: T) W1 W') →
  J [] W →
  CallsIn Fence.wide n prog gf (#[.func (.yield l) #[] #[]]++lb) W fun e W'=>(∃ v,e=.returned v)∧∃ xs,Good xs∧J xs W'∧aQA (l :: T) W W'
def bodyPostJ (I:World→Prop) (T:List Nat) (W:World):Exit→Act→World→Prop
 | .normal,_,W'=>I W'∧aQA T W W'
 | _,_,_=>False
theorem range_law {α:Type} {n:Nat} {g:Operand} {ps:Array Tmp} {assign body:Code} {Q:Exit→Act→World→Prop} {a:Act} {w:World} {gf:Nat} {lb:Array Value} (hg:a.eval g=.func (.func gf) #[] lb)
  (eg:∀ args w,(callFunc gf args).run prog w=.ok (.enter gf args) w) {encs:α→Array Value} {cond:List α→α→Prop} {Good:List α→Prop} {T:List Nat} (hT:∀ t∈T,t<w.heap.size) (hseq:Iter gf lb encs cond Good T w) (hps:∀ x,(encs x).size=ps.size)
  (I:List α→World→Prop) (hI:∀ pre W1 W2,I pre W1→Go.RowKit.Below w.heap.size W1 W2→I pre W2) (h0:I [] w) (Ax:α→Act→World→Prop) (hAx:∀ x a' W1 W2,Ax x a' W1→aQA [w.heap.size+1] W1 W2→Ax x a' W2)
  (hassign:∀ (l:Nat) (pre:List α) (x:α) (W:World) (K:Act→World→Prop),w.heap.size+1<W.heap.size→I pre W→cond pre x→(∀ a' W',Ax x a' W'→aQA [] W W'→K a' W') →
   assign.wpIn (Fence.wide.inRound l) (n - 1 - 1) prog (Exit.then K (fun _ _ _=>False)) { tmps:=(ps.zip (encs x)).foldl (fun t (p,v)=>t.setIfInBounds p v) a.tmps,defers:=[] } W)
  (hbody:∀ (l:Nat) (pre:List α) (x:α) (a':Act) (W:World),w.heap.size+1<W.heap.size→I pre W→cond pre x→Ax x a' W→body.wpIn (Fence.wide.inRound l) (n - 1 - 1) prog (bodyPostJ (I (pre++[x])) T W) a' W)
  (hdone:∀ (xs:List α) (W:World),Good xs→I xs W→aQA T w W→w.heap.size<W.heap.size→W.heap[w.heap.size]?=some (.deferred (some []))→Q .normal { a with defers:={ target:=.collected w.heap.size,args:=#[] } :: a.defers } W) :
  (Code.rangeFunc g ps assign body).wpIn Fence.wide n prog Q a w:=by
 refine wpIn_rangeFunc ?_;intro fn hfn;show ∃ l mark w₁ d w₁' f args w₂,(Instr.enterLoop fn a.tmps ps assign body none).run prog w=_∧_;let rec1:LoopState→Loop:=fun st=>{ state:=st,pending:=none,fn,tmps:=a.tmps,params:=ps,assign,body,defers:=w.heap.size };obtain ⟨W1,hW1⟩:∃ W1,(w.alloc (.deferred (some []))).alloc (.loop (rec1 .ready))=W1:=⟨_,rfl⟩;have k1:aQA [] w W1:=by rw [←hW1];exact (aQA.alloc _ _ _).trans (aQA.alloc _ _ _)
 have hD1:W1.heap[w.heap.size]?=some (.deferred (some [])):=by
  rw [←hW1];exact (Go.RowKit.Below.heap_alloc _ _ _ (by simp)).trans (World.alloc_heap_new w _)
 have hL1:W1.heap[w.heap.size+1]?=some (.loop (rec1 .ready)):=by
  rw [←hW1];have:=World.alloc_heap_new (w.alloc (.deferred (some []))) (.loop (rec1 .ready));rwa [World.size_alloc] at this
 have hs1:W1.heap.size=w.heap.size+1+1:=by rw [←hW1];simp
 refine ⟨w.heap.size+1,[{ target:=.collected w.heap.size,args:=#[] }],W1,{ target:=.fn (.func gf) lb,args:=#[.func (.yield (w.heap.size+1)) #[] #[]] },W1,gf,
  #[.func (.yield (w.heap.size+1)) #[] #[]]++lb,W1,?_,?_,fun _ _=>trivial,?_,fun h=>(nomatch h),?_⟩
 ·rw [←hW1];exact run_enterLoop_outer _ _ _ _ _
 ·simp only [resolve,hg];simp [go_sem]
 ·simp [invoke,go_sem,eg]
 ·refine (hseq (n - 1) (w.heap.size+1) (fun pre W=>I pre W∧W.heap[w.heap.size+1]?=some (.loop (rec1 .ready))∧W.heap[w.heap.size]?=some (.deferred (some []))) W1 (by omega) (by omega)
   (k1.below (Nat.le_refl _) (by simp)) ?_ ?_ ⟨hI _ _ _ h0 (k1.below (Nat.le_refl _) (by simp)),hL1,hD1⟩).mono ?_
  ·rintro pre A B ⟨i,l,d⟩ hb;exact ⟨hI _ _ _ i (hb.mono (by omega)),(hb.block _ (by omega)).trans l,(hb.block _ (by omega)).trans d⟩
  ·rintro pre x W ⟨hi,hl,hd⟩ hc;have hlt:w.heap.size+1<W.heap.size:=(Array.getElem?_eq_some_iff.1 hl).1;refine ⟨fn,_,assign,body,run_yield (P:=prog) (args:=encs x) hl (hps x),roundIn_of_wpIn trivial (hassign _ pre x W _ hlt hi hc ?_)⟩;intro a' W' hax hk;have hl':W'.heap[w.heap.size+1]?=some (.loop (rec1 .ready)):=(hk.block _ hlt (by simp)).trans hl;have hd':W'.heap[w.heap.size]?=some (.deferred (some [])):=(hk.block _ (by omega) (by simp)).trans hd;have hlt':w.heap.size+1<W'.heap.size:=(Array.getElem?_eq_some_iff.1 hl').1;have hwl:w.heap.size≤W.heap.size:=(by omega);have hi':I pre W':=hI _ _ _ hi (hk.below hwl (by simp));have k2:=aQA.putObj W' (w.heap.size+1) (.loop (rec1 .busy));have hl2:(W'.putObj (w.heap.size+1) (.loop (rec1 .busy))).heap[w.heap.size+1]?=some (.loop (rec1 .busy)):=World.putObj_heap_same hlt';have hd2:(W'.putObj (w.heap.size+1) (.loop (rec1 .busy))).heap[w.heap.size]?=some (.deferred (some [])):=(World.putObj_heap_other (by omega)).trans hd';refine ⟨_,run_beginRound hl' rfl,?_⟩;refine wpIn_mono (hbody _ pre x a' (W'.putObj (w.heap.size+1) (.loop (rec1 .busy))) (Array.getElem?_eq_some_iff.1 hl2).1 (hI _ _ _ hi' (k2.below (by omega) (by simp))) hc (hAx _ _ _ _ hax k2)) ?_;rintro e a3 W3 hp;cases e with
   | normal=>
    obtain ⟨hi3,k3⟩:=hp;have hl3:W3.heap[w.heap.size+1]?=some (.loop (rec1 .busy)):=(k3.block _ (Array.getElem?_eq_some_iff.1 hl2).1 (fun x=>by have:=hT _ x;omega)).trans hl2;have hd3:W3.heap[w.heap.size]?=some (.deferred (some [])):=(k3.block _ (Array.getElem?_eq_some_iff.1 hd2).1 (fun x=>by have:=hT _ x;omega)).trans hd2;have hlt3:=(Array.getElem?_eq_some_iff.1 hl3).1;have k4:=aQA.putObj W3 (w.heap.size+1) (.loop (rec1 .ready));refine ⟨_,_,run_endRound none hl3,rfl,⟨hI _ _ _ hi3 (k4.below (by omega) (by simp)),World.putObj_heap_same hlt3,(World.putObj_heap_other (by omega)).trans hd3⟩,?_⟩;exact (((hk.mono (by simp)).trans (k2.mono (by simp))).trans (k3.mono (fun i hi=>List.mem_cons_of_mem _ hi))).trans (k4.mono (by simp))
   | ret=>exact hp.elim
   | exit id=>exact hp.elim
   | goto t=>exact hp.elim
   | panic c=>exact hp.elim
   | outgrown=>exact hp.elim
  ·rintro e W2 ⟨⟨v,rfl⟩,xs,hG,⟨hi,hl,hd⟩,k2⟩;have k5:=aQA.putObj W2 (w.heap.size+1) (.loop (rec1 .exhausted));have hlt2:=(Array.getElem?_eq_some_iff.1 hl).1;refine ⟨none,_,run_endLoop hl (by simp [rec1]),?_⟩;refine hdone xs _ hG (hI _ _ _ hi (k5.below (by omega) (by simp))) ?_ (by simp;omega) ((World.putObj_heap_other (by omega)).trans hd);refine (k1.mono (by simp)).trans_new (k2.trans (k5.mono (by simp))) ?_;intro i hi;rcases List.mem_cons.1 hi with e | x
   ·exact .inr (by omega)
   ·exact .inl x
end
section
open Go.RowKit
structure jQK (b:Nat) (T:List Nat) (w w':World):Prop where
 os:w'.os=w.os
 tape:w'.tape=w.tape
 output:w'.output=w.output
 size:w.heap.size≤w'.heap.size
 block:∀ i,i<w.heap.size→i∉T→(i<b∨∀ cs t f,w.heap[i]?≠some (.cells cs t f))→w'.heap[i]?=w.heap[i]?
theorem jQK.trans {b:Nat} {T:List Nat} {x y z:World} (h:jQK b T x y) (k:jQK b T y z):jQK b T x z:=
 ⟨k.os.trans h.os,k.tape.trans h.tape,k.output.trans h.output,Nat.le_trans h.size k.size,fun i hi hT hc=>by
  have e:=h.block i hi hT hc;refine (k.block i (Nat.lt_of_lt_of_le hi h.size) hT ?_).trans e;rcases hc with hc | hc
  ·exact .inl hc
  ·rw [e];exact .inr hc⟩
theorem jQK.mono {b:Nat} {T T':List Nat} {w w':World} (h:jQK b T w w') (hT:∀ i∈T,i∈T'):jQK b T' w w':=
 ⟨h.os,h.tape,h.output,h.size,fun i hi hn hc=>h.block i hi (fun x=>hn (hT i x)) hc⟩
theorem aQA.grows {b:Nat} {T T':List Nat} {w w':World} (h:aQA T w w') (hT:∀ i∈T,i∈T'):jQK b T' w w':=
 ⟨h.os,h.tape,h.output,h.size,fun i hi hn _=>h.block i hi (fun x=>hn (hT i x))⟩
theorem aQA.growsRow {b:Nat} {T T':List Nat} {w w':World} (h:aQA T w w') (hT:∀ i∈T,i∈T'∨(b≤i∧∃ cs t f,w.heap[i]?=some (.cells cs t f))):jQK b T' w w':=
 ⟨h.os,h.tape,h.output,h.size,fun i hi hn hc=>h.block i hi (fun x=>by
  rcases hT i x with h1 | ⟨h1,cs,t,f,h2⟩
  ·exact hn h1
  ·rcases hc with hc | hc
   ·omega
   ·exact hc _ _ _ h2)⟩
theorem aQA.trans_grows {T T':List Nat} {a b c:World} (h:aQA T a b) (k:jQK a.heap.size T' b c) (hT:∀ i∈T',i∈T∨a.heap.size≤i):aQA T a c:=
 ⟨k.os.trans h.os,k.tape.trans h.tape,k.output.trans h.output,Nat.le_trans h.size k.size,fun i hi hn=>(k.block i (Nat.lt_of_lt_of_le hi h.size) (fun x=>by
  rcases hT i x with h1 | h1
  ·exact hn h1
  ·omega) (.inl hi)).trans (h.block i hi hn)⟩
structure fQK (b:Nat) (w w':World):Prop where
 os:w'.os=w.os
 tape:w'.tape=w.tape
 output:w'.output=w.output
 size:w.heap.size≤w'.heap.size
 block:∀ i,i<w.heap.size→(i<b∨∃ cs t f,w.heap[i]?=some (.cells cs t f))→w'.heap[i]?=w.heap[i]?
theorem fQK.mono {b b':Nat} {w w':World} (h:fQK b w w') (hb:b'≤b):fQK b' w w':=
 ⟨h.os,h.tape,h.output,h.size,fun i hi hc=>h.block i hi (hc.imp (fun x=>by omega) id)⟩
theorem aQA.still {b:Nat} {T:List Nat} {w w':World} (h:aQA T w w') (hT:∀ i∈T,b≤i∧∀ cs t f,w.heap[i]?≠some (.cells cs t f)):fQK b w w':=
 ⟨h.os,h.tape,h.output,h.size,fun i hi hc=>h.block i hi (fun x=>by
  obtain ⟨h1,h2⟩:=hT i x;rcases hc with hc | ⟨cs,t,f,hc⟩
  ·omega
  ·exact h2 _ _ _ hc)⟩
def IterG {α:Type} (gf:FuncId) (lb:Array Value) (encs:α→Array Value) (cond:List α→α→Prop) (Good:List α→Prop) (T:List Nat) (w:World):Prop:=
 ∀ (n l:Nat) (J:List α→World→Prop) (W:World),w.heap.size≤l→l<W.heap.size→Go.RowKit.Below w.heap.size w W →
  (∀ pre W1 W2,J pre W1→fQK W.heap.size W1 W2→J pre W2) →
  (∀ pre x W1,J pre W1→cond pre x→YieldAt Fence.wide (n - 1) prog l (encs x) W1 fun e W'=>e=.returned (.bool true)∧J (pre++[x]) W'∧jQK w.heap.size (l :: T) W1 W') →
  J [] W →
  CallsIn Fence.wide n prog gf (#[.func (.yield l) #[] #[]]++lb) W fun e W'=>(∃ v,e=.returned v)∧∃ xs,Good xs∧J xs W'∧jQK w.heap.size (l :: T) W W'
def bodyPostG (I:World→Prop) (b:Nat) (T:List Nat) (W:World):Exit→Act→World→Prop
 | .normal,_,W'=>I W'∧jQK b T W W'
 | _,_,_=>False
theorem range_lawG {α:Type} {n:Nat} {g:Operand} {ps:Array Tmp} {assign body:Code} {Q:Exit→Act→World→Prop} {a:Act} {w:World} {gf:Nat} {lb:Array Value} (hg:a.eval g=.func (.func gf) #[] lb)
  (eg:∀ args w,(callFunc gf args).run prog w=.ok (.enter gf args) w) {encs:α→Array Value} {cond:List α→α→Prop} {Good:List α→Prop} {T:List Nat} (hT:∀ t∈T,t<w.heap.size) (hseq:IterG gf lb encs cond Good T w) (hps:∀ x,(encs x).size=ps.size)
  (I:List α→World→Prop) (hI:∀ pre W1 W2,I pre W1→fQK w.heap.size W1 W2→I pre W2) (h0:I [] w) (Ax:α→Act→World→Prop) (hAx:∀ x a' W1 W2,Ax x a' W1→aQA [w.heap.size+1] W1 W2→Ax x a' W2)
  (hassign:∀ (l:Nat) (pre:List α) (x:α) (W:World) (K:Act→World→Prop),w.heap.size+1<W.heap.size→I pre W→cond pre x→(∀ a' W',Ax x a' W'→aQA [] W W'→K a' W') →
   assign.wpIn (Fence.wide.inRound l) (n - 1 - 1) prog (Exit.then K (fun _ _ _=>False)) { tmps:=(ps.zip (encs x)).foldl (fun t (p,v)=>t.setIfInBounds p v) a.tmps,defers:=[] } W)
  (hbody:∀ (l:Nat) (pre:List α) (x:α) (a':Act) (W:World),w.heap.size+1<W.heap.size→I pre W→cond pre x→Ax x a' W→body.wpIn (Fence.wide.inRound l) (n - 1 - 1) prog (bodyPostG (I (pre++[x])) w.heap.size T W) a' W)
  (hdone:∀ (xs:List α) (W:World),Good xs→I xs W→aQA T w W→w.heap.size<W.heap.size→W.heap[w.heap.size]?=some (.deferred (some []))→Q .normal { a with defers:={ target:=.collected w.heap.size,args:=#[] } :: a.defers } W) :
  (Code.rangeFunc g ps assign body).wpIn Fence.wide n prog Q a w:=by
 refine wpIn_rangeFunc ?_;intro fn hfn;show ∃ l mark w₁ d w₁' f args w₂,(Instr.enterLoop fn a.tmps ps assign body none).run prog w=_∧_;let rec1:LoopState→Loop:=fun st=>{ state:=st,pending:=none,fn,tmps:=a.tmps,params:=ps,assign,body,defers:=w.heap.size };obtain ⟨W1,hW1⟩:∃ W1,(w.alloc (.deferred (some []))).alloc (.loop (rec1 .ready))=W1:=⟨_,rfl⟩;have k1:aQA [] w W1:=by rw [←hW1];exact (aQA.alloc _ _ _).trans (aQA.alloc _ _ _)
 have hD1:W1.heap[w.heap.size]?=some (.deferred (some [])):=by
  rw [←hW1];exact (Go.RowKit.Below.heap_alloc _ _ _ (by simp)).trans (World.alloc_heap_new w _)
 have hL1:W1.heap[w.heap.size+1]?=some (.loop (rec1 .ready)):=by
  rw [←hW1];have:=World.alloc_heap_new (w.alloc (.deferred (some []))) (.loop (rec1 .ready));rwa [World.size_alloc] at this
 have hs1:W1.heap.size=w.heap.size+1+1:=by rw [←hW1];simp
 refine ⟨w.heap.size+1,[{ target:=.collected w.heap.size,args:=#[] }],W1,{ target:=.fn (.func gf) lb,args:=#[.func (.yield (w.heap.size+1)) #[] #[]] },W1,gf,
  #[.func (.yield (w.heap.size+1)) #[] #[]]++lb,W1,?_,?_,fun _ _=>trivial,?_,fun h=>(nomatch h),?_⟩
 ·rw [←hW1];exact run_enterLoop_outer _ _ _ _ _
 ·simp only [resolve,hg];simp [go_sem]
 ·simp [invoke,go_sem,eg]
 ·refine (hseq (n - 1) (w.heap.size+1) (fun pre W=>I pre W∧W.heap[w.heap.size+1]?=some (.loop (rec1 .ready))∧W.heap[w.heap.size]?=some (.deferred (some []))) W1 (by omega) (by omega)
   (k1.below (Nat.le_refl _) (by simp)) ?_ ?_ ⟨hI _ _ _ h0 (k1.still (by simp)),hL1,hD1⟩).mono ?_
  ·rintro pre A B ⟨i,l,d⟩ hb;exact ⟨hI _ _ _ i (hb.mono (by omega)),(hb.block _ (Array.getElem?_eq_some_iff.1 l).1 (.inl (by omega))).trans l,(hb.block _ (Array.getElem?_eq_some_iff.1 d).1 (.inl (by omega))).trans d⟩
  ·rintro pre x W ⟨hi,hl,hd⟩ hc;have hlt:w.heap.size+1<W.heap.size:=(Array.getElem?_eq_some_iff.1 hl).1;refine ⟨fn,_,assign,body,run_yield (P:=prog) (args:=encs x) hl (hps x),roundIn_of_wpIn trivial (hassign _ pre x W _ hlt hi hc ?_)⟩;intro a' W' hax hk;have hl':W'.heap[w.heap.size+1]?=some (.loop (rec1 .ready)):=(hk.block _ hlt (by simp)).trans hl;have hd':W'.heap[w.heap.size]?=some (.deferred (some [])):=(hk.block _ (by omega) (by simp)).trans hd;have hlt':w.heap.size+1<W'.heap.size:=(Array.getElem?_eq_some_iff.1 hl').1;have hi':I pre W':=hI _ _ _ hi (hk.still (by simp));have k2:=aQA.putObj W' (w.heap.size+1) (.loop (rec1 .busy));have hl2:(W'.putObj (w.heap.size+1) (.loop (rec1 .busy))).heap[w.heap.size+1]?=some (.loop (rec1 .busy)):=World.putObj_heap_same hlt';have hd2:(W'.putObj (w.heap.size+1) (.loop (rec1 .busy))).heap[w.heap.size]?=some (.deferred (some [])):=(World.putObj_heap_other (by omega)).trans hd';refine ⟨_,run_beginRound hl' rfl,?_⟩;refine wpIn_mono (hbody _ pre x a' (W'.putObj (w.heap.size+1) (.loop (rec1 .busy))) (Array.getElem?_eq_some_iff.1 hl2).1 (hI _ _ _ hi' (k2.still (by simp only [List.mem_singleton];rintro i rfl;exact ⟨by omega,by rw [hl'];intro _ _ _ e;cases e⟩))) hc (hAx _ _ _ _ hax k2)) ?_;rintro e a3 W3 hp;cases e with
   | normal=>
    obtain ⟨hi3,k3⟩:=hp;have hl3:W3.heap[w.heap.size+1]?=some (.loop (rec1 .busy)):=(k3.block _ (Array.getElem?_eq_some_iff.1 hl2).1 (fun x=>by have:=hT _ x;omega) (.inr (by rw [hl2];intro _ _ _ e;cases e))).trans hl2;have hd3:W3.heap[w.heap.size]?=some (.deferred (some [])):=(k3.block _ (Array.getElem?_eq_some_iff.1 hd2).1 (fun x=>by have:=hT _ x;omega) (.inr (by rw [hd2];intro _ _ _ e;cases e))).trans hd2;have hlt3:=(Array.getElem?_eq_some_iff.1 hl3).1;have k4:=aQA.putObj W3 (w.heap.size+1) (.loop (rec1 .ready));refine ⟨_,_,run_endRound none hl3,rfl,⟨hI _ _ _ hi3 (k4.still (by simp only [List.mem_singleton];rintro i rfl;exact ⟨by omega,by rw [hl3];intro _ _ _ e;cases e⟩)),World.putObj_heap_same hlt3,(World.putObj_heap_other (by omega)).trans hd3⟩,?_⟩;exact (((hk.grows (by simp)).trans (k2.grows (by simp))).trans (k3.mono (fun i hi=>List.mem_cons_of_mem _ hi))).trans (k4.grows (by simp))
   | ret=>exact hp.elim
   | exit id=>exact hp.elim
   | goto t=>exact hp.elim
   | panic c=>exact hp.elim
   | outgrown=>exact hp.elim
  ·rintro e W2 ⟨⟨v,rfl⟩,xs,hG,⟨hi,hl,hd⟩,k2⟩;have k5:=aQA.putObj W2 (w.heap.size+1) (.loop (rec1 .exhausted));have hlt2:=(Array.getElem?_eq_some_iff.1 hl).1;refine ⟨none,_,run_endLoop hl (by simp [rec1]),?_⟩;refine hdone xs _ hG (hI _ _ _ hi (k5.still (by simp only [List.mem_singleton];rintro i rfl;exact ⟨by omega,by rw [hl];intro _ _ _ e;cases e⟩))) ?_ (by simp;omega) ((World.putObj_heap_other (by omega)).trans hd);refine (k1.mono (T':=T) (by simp)).trans_grows (k2.trans (k5.grows (by simp))) ?_;intro i hi;rcases List.mem_cons.1 hi with e | x
   ·exact .inr (by omega)
   ·exact .inl x
end
section
open Go.RowKit Go.Shelf
attribute [local go_sem] Oper.semAt_some
def sliceLen:Value→Nat
 | .slice _ n _=>n
 | _=>0
def mapSize (w:World) (r:Nat):Nat:=match w.heap[r]? with
 | some (.map es _)=>es.size
 | _=>0
theorem oQK {α β:Type} {ek:α→Value} {ev:β→Value} {w:World} {r:Nat} {L:List (α×β)} (h:cQB ek ev w r L):mapSize w r=L.length:=by
 obtain ⟨es,clock,h1,h2,_⟩:=h;have:=congrArg List.length h2;simp only [List.length_map,Array.length_toList] at this;simp [mapSize,h1,this]
def eN (x:Int×Tri):Array Value:=#[.int .i64 x.1,.agg #[.int .i64 x.2.1,.int .i64 x.2.2.1,.int .i64 x.2.2.2]]
theorem NInv.few {S:ST} (hw:WF S) {roots ws:List Int} {xs:List (Int×Tri)} (hr:gQH S roots) (h:NInv S roots ws xs) (hn:S.n≤12) (hl:roots.length≤1000):xs.length≤100000000:=by
 have h1:=aQL S.N S.n roots;have h2:=nodup_len (xs.map Prod.fst) (roots.flatMap (tree S.N S.n)) h.nodup (fun f hf=>by
  obtain ⟨p,hp,rfl⟩:=List.mem_map.1 hf;exact reach_tree hw hr (h.reach p hp))
 rw [List.length_map] at h2;have h3:cst S.n≤4095:=cst_mono hn;have h4:(roots.length:Int) * cst S.n≤1000 * 4095:=Int.mul_le_mul (by omega) h3 (tQD _) (by omega);omega
theorem nodes_iter {w:World} {B:SB} {S:ST} (hS0:gQA w B S) (hw:WF S) (pr ps g0 c0:Nat) (roots:List Int) (hpr0:cQA w pr #[.slice (some ⟨g0,0,none⟩) roots.length c0]) (hps0:cQA w ps #[.pointer (some ⟨B.b,0,none⟩)]) (hrow0:lQB w g0 roots) (hr:gQH S roots)
  (hlen:roots.length≤1000) (hN:∀ xs ws,NInv S roots ws xs→xs.length≤100000000) (T:List Nat) (hT:∀ t∈T,t<w.heap.size∧t∉B.own∧t≠ps) :
  Iter 280 #[.pointer (some ⟨pr,0,none⟩),.pointer (some ⟨ps,0,none⟩)] eN (fun pre x=>get S.N x.1=some x.2∧pre.length<S.N.length) (GoodNodes S roots) T w:=by
 obtain ⟨i0,hi0,hz0,hz1,hz2⟩:=info_parts info3;intro n l J W hl hlW hb hJ hY h0;have hS:=hS0.of_heap (w':=W) (fun i hi=>hb.block i (hS0.lt i hi));have hpr:=hpr0.of_heap (w':=W) (hb.block pr hpr0.lt);have hps:=hps0.of_heap (w':=W) (hb.block ps hps0.lt);have hrow:=hrow0.of_heap (w':=W) (hb.block g0 hrow0.lt);have hmm:=@run_makeMap prog;have k1:=aQA.alloc [] W (.map #[] 0);have hpr1:=hpr.keeps k1 (by simp);have hps1:=hps.keeps k1 (by simp);have hrow1:=hrow.kept k1 (by simp);have hS1:=hS.keeps k1 (by simp);have hM1:cQB eI eU (W.alloc (.map #[] 0)) W.heap.size ([]:List (Int×Unit)):=cQB.new W 0;have p0:=hpr1.cell 0;simp at p0;have HY:=hide hY;have HJ:=hide hJ;clear hY hJ;have hc:=hide (clone_calls (cap:=c0) hrow1 (by omega));refine callsIn_of_wp func280 rfl trivial ?_ rfl;simp only [ntmps280,List.size_toArray,List.length_cons,List.length_nil,Nat.reduceAdd,Nat.reduceSub,Array.replicate_succ,Array.replicate_zero,List.push_toArray,List.append_toArray,List.nil_append,List.cons_append];gi_wp2_with fail
 refine ⟨trivial,fun h=>(nomatch h),?_⟩;refine (callsIn_wide.2 hc.out).mono ?_;rintro e W2 ⟨v,rfl,hv,k2,hvn⟩;have hex:∃ g cap,v=.slice (some ⟨g,0,none⟩) roots.length cap:=by
  rcases hv.2 with ⟨e,_⟩ | ⟨g,cap,cur,e,_⟩
  ·exact absurd e hvn
  ·exact ⟨g,cap,e⟩
 obtain ⟨g1,cap1,hv1⟩:=hex;subst hv1;have hM2:=hM1.kept k2 (by simp);have kk2:aQA (l :: T) W W2:=((k1.trans k2).mono (by simp));have hv2:W2.ownsRow W.heap.size 3 1 (.slice (some ⟨g1,0,none⟩) roots.length cap1) roots.length (ints roots):=sQE hv (by simp);have hJ2:J [] W2:=HJ.out _ _ _ h0 ((k1.trans k2).below (Nat.le_refl _) (by simp));clear hv hvn hc p0 hrow1 hpr1 hpr hrow hM1;gi_wp2_with fail
 gi_loopw [5] (fun t wr=>∃ (g cap:Nat) (ws:List Int) (xs:List (Int×Tri)),t=.slice (some ⟨g,0,none⟩) ws.length cap∧wr.ownsRow W.heap.size 3 1 t ws.length (ints ws)∧cQB eI eU wr W.heap.size (xs.map fun x=>(x.1,()))∧NInv S roots ws xs∧J xs wr∧aQA (l :: T) W wr∧ws.length≤roots.length+2 * xs.length)
  (fun t wr=>sliceLen t+3 * (S.N.length - mapSize wr W.heap.size))
 case atStart=>exact ⟨g1,cap1,roots,[],rfl,hv2,hM2,NInv.start hr,hJ2,kk2,by simp⟩
 case round=>
  obtain ⟨g,cap,ws,xs,rfl,hrow,hmap,hinv,hJs,hkp,hwl⟩:=hrel;clear hv2 hM2 hJ2 kk2 k2 hS1 hps1;have hSr:=hS.keeps hkp (fun i hi x=>by
   rcases List.mem_cons.1 x with e | x
   ·have:=hS0.lt i hi;omega
   ·exact (hT _ x).2.1 hi)
  have hpsr:=hps.keeps hkp (fun x=>by
   rcases List.mem_cons.1 x with e | x
   ·have:=hps0.lt;omega
   ·exact (hT _ x).2.2 rfl)
  have hms:=oQK hmap;rw [List.length_map] at hms;have hxl:=hinv.length;have hxb:=hN _ _ hinv;have Hms:=hide hms;clear hms;rcases List.eq_nil_or_concat ws with rfl | ⟨ws',f,rfl⟩
  ·simp only [List.length_nil] at hrow ⊢;gi_wp2
   go_end0
   exact ⟨⟨_,rfl⟩,xs,hinv.done,hJs,hkp⟩
  ·rw [List.concat_eq_append] at *;simp only [List.length_append,List.length_cons,List.length_nil,Nat.zero_add] at hrow hwl ⊢;have hcell:wr.cell? ⟨g,ws'.length,none⟩=some (.int .i64 f):=ownsRow_cell hrow (by simp);have hat:=ownsRow_at hrow;have hrow':wr.ownsRow W.heap.size 3 1 (.slice (some ⟨g,0,none⟩) ws'.length cap) ws'.length (ints ws'):=
    ownsRow_pop (xs:=ints ws') (last:=[.int .i64 f]) (by simp [ints]) (by simpa [ints] using hrow)
   have hk63:(ws'.length:Int)≤9223372036854775806:=(by omega);have Hrow:=hide hrow;clear hrow;cases hsn:get (xs.map fun x=>(x.1,())) f with
   | some u=>
    have hlk:=xQD (P:=prog) underlying338 key3 (z:=.agg #[]) zero339 hmap f true;simp only [hsn,Option.map_some,Option.getD_some,eI,eU,Option.isSome_some,if_true] at hlk;have hfm:f∈xs.map Prod.fst:=by
     have:=tQE hsn;obtain ⟨x,hx,e⟩:=List.mem_map.1 this;simp only [Prod.mk.injEq] at e;exact List.mem_map.2 ⟨x,hx,e.1⟩
    clear hsn;have kA:=aQA.alloc [] wr (.cells #[] 339);have hmA:=hmap.kept kA (by simp);have hmsA:=oQK hmA;rw [List.length_map] at hmsA;have HmsA:=hide hmsA;clear hmsA;gi_wp2_with fail
    refine ⟨⟨g,cap,ws',xs,rfl,bQA hrow' kA (by simp),hmA,hinv.skip (.inl hfm),HJ.out _ _ _ hJs (kA.below hkp.size (by simp)),hkp.trans (kA.mono (by simp)),by omega⟩,?_⟩;rw [Hms.out,HmsA.out];simp only [sliceLen];omega
   | none=>
    have hlk:=xQD (P:=prog) underlying338 key3 (z:=.agg #[]) zero339 hmap f true;simp only [hsn,Option.map_none,Option.getD_none,eI,Option.isSome_none,if_true] at hlk;have hfm:f∉xs.map Prod.fst:=by
     intro hx;obtain ⟨x,hx,e⟩:=List.mem_map.1 hx;exact wQJ.1 hsn (x.1,()) (List.mem_map.2 ⟨x,hx,rfl⟩) e
    have Hsn:=hide hsn;clear hsn;have kA:=aQA.alloc [] wr (.cells #[] 339);have hmA:=hmap.kept kA (by simp);by_cases f1:f≤1
    ·have hmsA:=oQK hmA;rw [List.length_map] at hmsA;have HmsA:=hide hmsA;clear hmsA;gi_wp2_with fail
     refine ⟨⟨g,cap,ws',xs,rfl,bQA hrow' kA (by simp),hmA,hinv.skip (.inr f1),HJ.out _ _ _ hJs (kA.below hkp.size (by simp)),hkp.trans (kA.mono (by simp)),by omega⟩,?_⟩;rw [Hms.out,HmsA.out];simp only [sliceLen];omega
    ·have f2:2≤f:=(by omega);have hd1:decide (f≤1)=false:=by simp;omega
     obtain ⟨v,lo,hi,ht⟩:∃ v lo hi,get S.N f=some (v,lo,hi):=by
      rcases (hinv.wok f (by simp)).1 with e | e | ⟨_,⟨a,b,c⟩,ht⟩
      ·omega
      ·omega
      ·exact ⟨a,b,c,ht⟩
     have hinv':=hinv.take hw hfm f2 ht;have hxl':=hinv'.length;simp only [List.length_append,List.length_cons,List.length_nil] at hxl';obtain ⟨o,hrun,hmB⟩:=wQG (P:=prog) underlying338 key3 hmA f ();simp only [eI,eU] at hrun;have kB:aQA [W.heap.size] (wr.alloc (.cells #[] 339)) (blk (wr.alloc (.cells #[] 339)) W.heap.size o):=aQA.blk _ _ _;have hWr:W.heap.size<wr.heap.size:=hmap.lt;have kAB:aQA [W.heap.size] wr (blk (wr.alloc (.cells #[] 339)) W.heap.size o):=(kA.mono (by simp)).trans kB;have hSB:=hSr.keeps kAB (fun i hi x=>by have:=hS0.lt i hi;have:=hb.size;simp at x;omega);have hpsB:=hpsr.keeps kAB (by have:=hps0.lt;have:=hb.size;simp;omega);have hsB:(blk (wr.alloc (.cells #[] 339)) W.heap.size o).heap.size=wr.heap.size+1:=(by simp [blk]);have cps:=hpsB.cell 0;have c2:=hSB.head.cell 2;simp at cps c2;have hl71:=look71' hSB ht;have kC:=aQA.alloc [] (blk (wr.alloc (.cells #[] 339)) W.heap.size o) (.cells #[.int .i64 v,.int .i64 lo,.int .i64 hi] 228);have hNC:=cQA.new (blk (wr.alloc (.cells #[] 339)) W.heap.size o) #[.int .i64 v,.int .i64 lo,.int .i64 hi] 228;have kABC:=kAB.trans (kC.mono (by simp));have hJC:J xs _:=HJ.out _ _ _ hJs (kABC.below hkp.size (by simp));have hmC:=hmB.kept kC (by simp);have hrowC:=bQA hrow' kABC (fun i e=>by
      simp only [Value.ownBlock,Option.some.injEq] at e;subst e;intro x;simp only [List.mem_singleton] at x;obtain ⟨es,ck,h1,_⟩:=hmap;rcases hrow'.2 with ⟨h2,_⟩ | ⟨_,_,_,e2,_,hh,_⟩
      ·cases h2
      ·cases e2;rw [x,h1] at hh;cases hh)
     obtain ⟨fn,tmps,assign,body,hy,hR⟩:=HY.out xs (f,(v,lo,hi)) _ hJC ⟨ht,by omega⟩;simp only [eN] at hy;gi_wp2_with fail
     refine ⟨fun h=>(nomatch h),?_⟩;refine hR.mono ?_;rintro e W3 ⟨rfl,hJ3,k3⟩;have hlT:∀ i,W.heap.size≤i→i∉l :: T:=fun i hi x=>by
      rcases List.mem_cons.1 x with e | x
      ·omega
      ·have:=(hT _ x).1;have:=hb.size;omega
     rw [hsB] at hNC;have hN3:=hNC.keeps k3 (hlT _ (by omega));have hrow3:=bQA hrowC k3 (fun i e=>by
      simp only [Value.ownBlock,Option.some.injEq] at e;exact hlT _ (by omega))
     have hm3:=hmC.kept k3 (hlT _ (Nat.le_refl _));have k4:=aQA.alloc [] W3 (.cells #[.int .i64 hi,.int .i64 lo] 3);have hrow4:=bQA hrow3 k4 (by simp);have hcell4:∀ (j:Nat) (u:Value),(ints [hi,lo])[j]?=some u→(W3.alloc (.cells #[.int .i64 hi,.int .i64 lo] 3)).cell? ((⟨W3.heap.size,0,none⟩:Addr).add j)=some u:=by
      intro j u hu;rw [Addr.add_lit,Nat.zero_add,(cQA.new W3 #[.int .i64 hi,.int .i64 lo] 3).cell j];rw [←hu,←List.getElem?_toArray];rfl
     have hsz3:W.heap.size≤W3.heap.size:=by have:=k3.size;have:=kABC.size;omega
     have n1:=hN3.cell 1;have n2:=hN3.cell 2;simp at n1 n2;clear hR hy hl71 cps c2 hrun hlk hcell;gi_wp2_with (gi_at_builtin;refine wpListIn_append_own _ rfl _ _ 40 rfl W.heap.size 3 i0 (.int .i64 0) 1 8 underlying40 hi0 hz0 hz1 hz2 rfl (by decide) _ ws'.length (ints ws') rfl hrow4 ⟨W3.heap.size,0,none⟩ 2 2 (ints [hi,lo]) rfl (by simp [ints]) hcell4 (wQF _) (by unfold maxLen;omega) (by omega) (by simp;omega) ?_)
     intro v' W5 hown' hgrow hnil;have hex:∃ g' cap',v' = .slice (some ⟨g',0,none⟩) (ws'.length+2) cap':=by
      rcases hown'.2 with ⟨e,e2⟩ | ⟨g',cap',cur,e,_⟩
      ·omega
      ·exact ⟨g',cap',e⟩
     obtain ⟨g',cap',hv'⟩:=hex;subst hv';have k5:aQA [g] (W3.alloc (.cells #[.int .i64 hi,.int .i64 lo] 3)) W5:=grownBy_keeps' hgrow [g] (fun r e=>by
      simp only [Value.ownBlock,Option.some.injEq] at e;exact .inl (by simp [e]))
     have hgm:W.heap.size≠g:=fun e=>by
      obtain ⟨es,ck,h1,_⟩:=hm3;rcases hrow3.2 with ⟨h2,_⟩ | ⟨_,_,_,e2,_,hh,_⟩
      ·cases h2
      ·cases e2;rw [←e,h1] at hh;cases hh
     have hm5:=(hm3.kept k4 (by simp)).kept k5 (by simpa using hgm);have hms5:=oQK hm5;have Hms5:=hide hms5;clear hms5 hnil;have hput:put (xs.map fun x=>(x.1,())) f ()=(xs++[(f,(v,lo,hi))]).map fun x=>(x.1,()):=by
      unfold put;rw [Hsn.out];simp
     have Hput:=hide hput;clear hput;gi_wp2_with fail
     refine ⟨⟨g',cap',ws'++[hi,lo],xs++[(f,(v,lo,hi))],by simp,?_,?_,hinv',?_,?_,?_⟩,?_⟩
     ·have:ints (ws'++[hi,lo])=ints ws'++ints [hi,lo]:=(by simp [ints]);rw [this];simpa using hown'
     ·rw [←Hput.out];exact hm5
     ·exact HJ.out _ _ _ hJ3 ((k4.mono (T':=[g]) (by simp)).trans k5 |>.below hsz3 (by simp;exact hat.1))
     ·refine ((hkp.trans_new kABC (by simp)).trans k3).trans_new ((k4.mono (T':=[g]) (by simp)).trans k5) ?_;intro i hi;simp only [List.mem_singleton] at hi;exact .inr (by omega)
     ·simp only [List.length_append,List.length_cons,List.length_nil];omega
     ·rw [Hms.out,Hms5.out,Hput.out];simp only [sliceLen,List.length_map,List.length_append,List.length_cons,List.length_nil];omega
end
section
open Go.RowKit Go.Shelf
theorem nodes_calls (w:World) (p:Addr) (s:Option Addr) (n c:Nat) :
  Calls prog 236 #[.pointer (some p),.slice s n c] w fun e w'=>e=.returned (.func (.func 280) #[] #[.pointer (some ⟨w.heap.size+1,0,none⟩),.pointer (some ⟨w.heap.size,0,none⟩)]) ∧
   w' = (w.alloc (.cells #[.pointer (some p)] 135)).alloc (.cells #[.slice s n c] 40):=by
 go_enter func236,ntmps236
 go_wp2
 go_ret
 exact ⟨rfl,rfl⟩
theorem size_alloc' (w:World) (o:Obj):(w.alloc o).heap.size=w.heap.size+1:=by simp
theorem gQA.fresh' {w:World} {B:SB} {S:ST} (h:gQA w B S) {i:Nat} (hi:w.heap.size≤i):i∉B.own:=fun x=>by have:=h.lt _ x;omega
attribute [local go_sem] Oper.semAt_some
end
section
open Go.RowKit
section
variable {P:Program} {K:TypeId} {α β:Type} {ek:α→Value} {ev:β→Value}
def qQC (ek:α→Value) (ev:β→Value) (w:World) (rm it:Nat) (L:List (α×β)) (left:List α):Prop:=
 ∃ es clock since seen c0,w.heap[rm]?=some (.map es clock)∧es.toList.map (fun e=>(e.key,e.val))=L.map (fun p=>(ek p.1,ev p.2)) ∧
  (es.toList.map (·.born)).Nodup∧(∀ e∈es.toList,e.born<clock)∧(L.map Prod.fst).Nodup ∧
  w.heap[it]?=some (.mapIter (some rm) since seen c0)∧(∀ e∈es.toList,e.born<since)∧since≤c0∧since≤clock ∧
  (leftOf es seen).toList.map (·.key)=left.map ek
theorem qQC.is {w:World} {rm it:Nat} {L:List (α×β)} {left:List α} (h:qQC ek ev w rm it L left):cQB ek ev w rm L:=by
 obtain ⟨es,clock,since,seen,c0,h1,h2,h3,h4,h5,h6⟩:=h;exact ⟨es,clock,h1,h2,h3,h4,h5⟩
theorem qQC.of_heap {w w':World} {rm it:Nat} {L:List (α×β)} {left:List α} (h:qQC ek ev w rm it L left) (e1:w'.heap[rm]?=w.heap[rm]?) (e2:w'.heap[it]?=w.heap[it]?):qQC ek ev w' rm it L left:=by
 obtain ⟨es,clock,since,seen,c0,h1,h2,h3,h4,h5,h6,h7⟩:=h;exact ⟨es,clock,since,seen,c0,e1.trans h1,h2,h3,h4,h5,e2.trans h6,h7⟩
theorem qQC.it_lt {w:World} {rm it:Nat} {L:List (α×β)} {left:List α} (h:qQC ek ev w rm it L left):it<w.heap.size:=by
 obtain ⟨es,clock,since,seen,c0,h1,h2,h3,h4,h5,h6,h7⟩:=h;exact (Array.getElem?_eq_some_iff.1 h6).1
theorem qQC.ne {w:World} {rm it:Nat} {L:List (α×β)} {left:List α} (h:qQC ek ev w rm it L left):rm≠it:=by
 obtain ⟨es,clock,since,seen,c0,h1,h2,h3,h4,h5,h6,h7⟩:=h;intro e;rw [e,h6] at h1;cases h1
theorem oQC (es:Array MapEntry) (seen:Array Nat):(leftOf es seen).toList=es.toList.filter (fun e=>!seen.contains e.born):=by
 unfold leftOf;simp
theorem run_maprange {T E:TypeId} (ht:P.underlying T=some (.map K E)) {w:World} {r:Nat} {L:List (α×β)} (h:cQB ek ev w r L) :
  ∃ o,(Instr.range T (.map (some r))).run P w=.ok (.pointer (some ⟨w.heap.size,0,none⟩)) (w.alloc o)∧qQC ek ev (w.alloc o) r w.heap.size L (L.map Prod.fst):=by
 obtain ⟨es,clock,h1,h2,h3,h4,h5⟩:=h;refine ⟨.mapIter (some r) clock #[] clock,?_,es,clock,clock,#[],clock,?_,h2,h3,h4,h5,(MapKept.heap_alloc w _).1,h4,Nat.le_refl _,Nat.le_refl _,?_⟩
 ·unfold Instr.range;simp only [Sem.run_bind,run_underlying ht,Result.andThen_ok,MapKept.run_getObj_map h1];rfl
 ·exact ((MapKept.heap_alloc w _).2 r (Array.getElem?_eq_some_iff.1 h1).1).trans h1
 ·rw [oQC];have:es.toList.filter (fun e=>!(#[]:Array Nat).contains e.born)=es.toList:=by rw [List.filter_eq_self];intro a _;simp
  rw [this];have:=congrArg (List.map Prod.fst) h2;simpa [List.map_map,Function.comp_def] using this
theorem nQI {γ δ:Type} {f:γ→δ}:∀ {l:List γ},(l.map f).Nodup→∀ x∈l,∀ y∈l,f x=f y→x=y
 | [],_,x,hx,_,_,_=>by cases hx
 | a :: l,h,x,hx,y,hy,e=>by
  simp only [List.map_cons,List.nodup_cons] at h;rcases List.mem_cons.1 hx with ex | hx2
  ·rcases List.mem_cons.1 hy with ey | hy2
   ·rw [ex,ey]
   ·exact absurd (List.mem_map.2 ⟨y,hy2,by rw [←e,ex]⟩) h.1
  ·rcases List.mem_cons.1 hy with ey | hy2
   ·exact absurd (List.mem_map.2 ⟨x,hx2,by rw [e,ey]⟩) h.1
   ·exact nQI h.2 x hx2 y hy2 e
theorem map_nodup_inj {γ δ:Type} {f:γ→δ} (hf:∀ a b,f a=f b→a=b):∀ {l:List γ},l.Nodup→(l.map f).Nodup
 | [],_=>by simp
 | a :: l,h=>by
  simp only [List.nodup_cons,List.map_cons] at h ⊢;exact ⟨fun x=>by obtain ⟨b,hb,e⟩:=List.mem_map.1 x;exact h.1 (hf _ _ e ▸ hb),map_nodup_inj hf h.2⟩
theorem left_filter [DecidableEq α] (hinj:∀ a b,ek a=ek b→a=b) (a:α) (b:Nat):∀ (l:List MapEntry) (left:List α),l.map (·.key)=left.map ek→(∀ e∈l,e.born=b↔e.key=ek a) →
  (l.filter (fun e=>decide (e.born≠b))).map (·.key)=(left.filter (fun c=>decide (c≠a))).map ek
 | [],[],_,_=>by simp
 | [],_ :: _,h,_=>by simp at h
 | _ :: _,[],h,_=>by simp at h
 | e :: l,c :: left,h,hb=>by
  simp only [List.map_cons,List.cons.injEq] at h;have ih:=left_filter hinj a b l left h.2 (fun x hx=>hb x (List.mem_cons_of_mem _ hx));have hiff:=hb e (by simp);by_cases hc:c=a
  ·have e1:e.born=b:=hiff.2 (by rw [h.1,hc]);rw [List.filter_cons_of_neg (by simp [e1]),List.filter_cons_of_neg (by simp [hc])];exact ih
  ·have e1:e.born≠b:=fun x=>hc (hinj _ _ (by rw [←h.1];exact hiff.1 x));rw [List.filter_cons_of_pos (by simpa using e1),List.filter_cons_of_pos (by simpa using hc),List.map_cons,List.map_cons,h.1,ih]
theorem qQC.next [DecidableEq α] (hinj:∀ a b,ek a=ek b→a=b) {w:World} {rm it:Nat} {L:List (α×β)} {left:List α} (h:qQC ek ev w rm it L left) (ty:TypeId) :
  (left=[]∧(Instr.next (.pointer (some ⟨it,0,none⟩)) false ty).run P w=.ok (.tuple #[.bool false]) w) ∨
  ∃ a v w',a∈left∧get L a=some v∧(Instr.next (.pointer (some ⟨it,0,none⟩)) false ty).run P w=.ok (.tuple #[.bool true,ek a,ev v]) w' ∧
   (Instr.entry (.pointer (some ⟨it,0,none⟩))).run P w' = .ok (.tuple #[ek a,ev v]) w' ∧
   qQC ek ev w' rm it L (left.filter (fun b=>decide (b≠a)))∧aQA [it] w w'∧w'.heap.size=w.heap.size:=by
 have hne:=h.ne;obtain ⟨es,clock,since,seen,c0,h1,h2,h3,h4,h5,h6,h7,h8,hsc,h9⟩:=h;rcases run_next_at (P:=P) w ty it rm since c0 seen es clock h6 h1 h7 h8 with ⟨h0,hrun⟩ | ⟨e,he,w1,hw1,hrun⟩
 ·left;refine ⟨?_,hrun⟩;have:(leftOf es seen).toList=[]:=by rw [←List.length_eq_zero_iff];simpa using h0
  rw [this] at h9;simpa using h9.symm
 ·right;have hmem:e∈es.toList:=by rw [oQC] at he;exact (List.mem_filter.1 he).1
  have hns:seen.contains e.born=false:=by rw [oQC] at he;simpa using (List.mem_filter.1 he).2
  obtain ⟨p,hp,hpe⟩:∃ p∈L,(ek p.1,ev p.2)=(e.key,e.val):=by
   have:(e.key,e.val)∈L.map (fun p=>(ek p.1,ev p.2)):=by rw [←h2];exact List.mem_map.2 ⟨e,hmem,rfl⟩
   obtain ⟨p,hp,hq⟩:=List.mem_map.1 this;exact ⟨p,hp,hq⟩
  obtain ⟨a,v⟩:=p;simp only [Prod.mk.injEq] at hpe;obtain ⟨hk,hv⟩:=hpe;have hal:a∈left:=by
   have:e.key∈left.map ek:=by rw [←h9];exact List.mem_map.2 ⟨e,he,rfl⟩
   obtain ⟨b,hb,hbe⟩:=List.mem_map.1 this;rw [←hk] at hbe;rwa [←hinj _ _ hbe]
  have hw1h:w1.heap=w.heap:=by rcases hw1 with rfl | rfl <;> rfl
  have hblk:(ChangeMaps.setBlock w1 it (.mapIter (some rm) since (seen.push e.born) clock))=blk w1 it (.mapIter (some rm) since (seen.push e.born) clock):=rfl;rw [hblk] at hrun;have hit1:w1.heap[it]?=some (.mapIter (some rm) since seen c0):=by rw [hw1h];exact h6
  have hit:(blk w1 it (.mapIter (some rm) since (seen.push e.born) clock)).heap[it]?=some (.mapIter (some rm) since (seen.push e.born) clock):=qQH hit1;have hrm:(blk w1 it (.mapIter (some rm) since (seen.push e.born) clock)).heap[rm]?=some (.map es clock):=by rw [iQB _ hne,hw1h];exact h1
  refine ⟨a,v,_,hal,get_of_mem h5 hp,by rw [hk,hv];exact hrun,?_,?_,?_,?_⟩
  ·rw [hk,hv];exact run_entry_at _ it rm since seen es clock e hit hrm hmem h3
  ·refine ⟨es,clock,since,seen.push e.born,clock,hrm,h2,h3,h4,h5,hit,h7,hsc,hsc,?_⟩
   ·have hkn:(es.toList.map (·.key)).Nodup:=by
     have e1:es.toList.map (·.key)=(L.map Prod.fst).map ek:=by
      have:=congrArg (List.map Prod.fst) h2;simpa [List.map_map,Function.comp_def] using this
     rw [e1];exact map_nodup_inj hinj h5
    have e2:(leftOf es (seen.push e.born)).toList=(leftOf es seen).toList.filter (fun x=>decide (x.born≠e.born)):=by
     rw [oQC,oQC,List.filter_filter];apply List.filter_congr;intro x _;simp only [Array.contains_push];by_cases hx:x.born=e.born
     ·simp [hx]
     ·simp [hx]
    rw [e2];refine left_filter hinj a e.born _ _ h9 (fun x hx=>?_);have hxm:x∈es.toList:=by rw [oQC] at hx;exact (List.mem_filter.1 hx).1
    constructor
    ·intro hb;rw [nQI h3 x hxm e hmem hb,hk]
    ·intro hb;rw [nQI hkn x hxm e hmem (by rw [hb,hk])]
  ·refine ⟨?_,?_,?_,?_,?_⟩
   ·rcases hw1 with rfl | rfl <;> rfl
   ·rcases hw1 with rfl | rfl <;> rfl
   ·rcases hw1 with rfl | rfl <;> rfl
   ·simp [blk,hw1h]
   ·intro i _ hi;rw [iQB _ (by simpa using hi),hw1h]
  ·simp [blk,hw1h]
theorem qQC.del [DecidableEq α] {T E:TypeId} (ht:P.underlying T=some (.map K E)) (hk:KeyOk P K ek) (hinj:∀ a b,ek a=ek b→a=b) {w:World} {rm it:Nat} {L:List (α×β)} {left:List α} (h:qQC ek ev w rm it L left) (a:α) (ha:a∉left) (ty:TypeId) :
  ∃ o,(Builtin.delete_ #[T,K] ty #[.map (some rm),ek a]).run P w=.ok (.tuple #[]) (blk w rm o)∧qQC ek ev (blk w rm o) rm it (del L a) left:=by
 have hne:=h.ne;obtain ⟨es,clock,since,seen,c0,h1,h2,h3,h4,h5,h6,h7,h8,hsc,h9⟩:=h;have hcell:(#[Value.map (some rm),ek a])[0]?=some (.map (some rm)):=rfl;have hcell1:(#[Value.map (some rm),ek a])[1]?=some (ek a):=rfl;have hty:(#[T,K])[0]?=some T:=rfl;unfold Builtin.delete_;simp only [hcell,hcell1,hty,Sem.run_bind,run_underlying ht,Result.andThen_ok,MapKept.run_getObj_map h1,hk.check,rQF hk a w es.toList L h2];rcases lQJ (ev:=ev) a L 0 with ⟨hs,hg⟩ | ⟨j,v0,hs,hg,hj⟩
 ·rw [hs,del_absent hg];refine ⟨.map es clock,?_,es,clock,since,seen,c0,qQH h1,h2,h3,h4,h5,(iQB _ hne.symm).trans h6,h7,h8,hsc,h9⟩;rw [Sem.run_bind,MapKept.run_setObj_map _ h1];rfl
 ·rw [hs];have hlen:es.toList.length=L.length:=by have:=congrArg List.length h2;simpa using this
  have hjl:j<L.length:=(List.getElem?_eq_some_iff.1 hj).1;have hje:j<es.toList.length:=by rw [hlen];exact hjl
  have hE:(es.eraseIdxIfInBounds (0+j)).toList=es.toList.eraseIdx j:=by simp
  have hkey:(es.toList[j]).key=ek a:=by
   have:=congrArg (fun l:List (Value×Value)=>l[j]?) h2;simp only [List.getElem?_map,hj,Option.map_some,List.getElem?_eq_getElem hje,Option.some.injEq,Prod.mk.injEq] at this;exact this.1
  refine ⟨.map (es.eraseIdxIfInBounds (0+j)) clock,?_,_,clock,since,seen,c0,qQH h1,?_,?_,?_,nodup_del h5 a,(iQB _ hne.symm).trans h6,?_,h8,hsc,?_⟩
  ·rw [Sem.run_bind,MapKept.run_setObj_map _ h1];rfl
  ·rw [hE,del_erases h5 hj,ChangeMaps.map_eraseIdx,ChangeMaps.map_eraseIdx,h2]
  ·rw [hE,ChangeMaps.map_eraseIdx];exact h3.sublist (List.eraseIdx_sublist _ _)
  ·rw [hE];intro e he;exact h4 e ((List.eraseIdx_sublist _ _).mem he)
  ·rw [hE];intro e he;exact h7 e ((List.eraseIdx_sublist _ _).mem he)
  ·rw [oQC,hE,←h9,oQC];congr 1
   have hseen:(!seen.contains (es.toList[j]).born)=false:=by
    cases hc:(!seen.contains (es.toList[j]).born) with
    | false=>rfl
    | true=>
     exfalso;have hm:es.toList[j]∈(leftOf es seen).toList:=by rw [oQC];exact List.mem_filter.2 ⟨List.getElem_mem _,hc⟩
     have:(es.toList[j]).key∈left.map ek:=by rw [←h9];exact List.mem_map.2 ⟨_,hm,rfl⟩
     obtain ⟨b,hb,hbe⟩:=List.mem_map.1 this;rw [hkey] at hbe;exact ha (hinj _ _ hbe ▸ hb)
   have key:∀ (l:List MapEntry) (j:Nat) (hj:j<l.length),(!seen.contains (l[j]).born)=false→(l.eraseIdx j).filter (fun e=>!seen.contains e.born)=l.filter (fun e=>!seen.contains e.born):=by
    intro l;induction l with
    | nil=>intro j hj;simp at hj
    | cons x l ih=>
     intro j hj hb;cases j with
     | zero=>rw [List.eraseIdx_cons_zero,List.filter_cons_of_neg (by simpa using hb)]
     | succ j=>
      rw [List.eraseIdx_cons_succ];have:=ih j (by simpa using hj) (by simpa using hb);rw [List.filter_cons,List.filter_cons,this]
   exact key es.toList j hje hseen
end
end
section
open Go.RowKit Go.Shelf
structure SwInv (S:ST) (roots:List Int) (N':List (Int×Tri)) (U':List (Tri×Int)) (left:List Int):Prop where
 node:∀ f t,get N' f=some t↔get S.N f=some t∧(hQF S roots f∨f∈left)
 number:∀ t f,get U' t=some f↔get S.U t=some f∧(hQF S roots f∨f∈left)
theorem SwInv.start {S:ST} (hw:WF S) (roots:List Int):SwInv S roots S.N S.U (S.N.map Prod.fst):=
 ⟨fun _ _=>⟨fun h=>⟨h,.inr (List.mem_map.2 ⟨_,tQE h,rfl⟩)⟩,fun h=>h.1⟩,fun t f=>⟨fun h=>⟨h,.inr (List.mem_map.2 ⟨_,tQE ((hw.inv t f).1 h),rfl⟩)⟩,fun h=>h.1⟩⟩
theorem SwInv.stays {S:ST} {roots:List Int} {N':List (Int×Tri)} {U':List (Tri×Int)} {left:List Int} (h:SwInv S roots N' U' left) {f:Int} (hf:hQF S roots f):SwInv S roots N' U' (left.filter (fun b=>decide (b≠f))):=by
 have key:∀ g,(hQF S roots g∨g∈left)↔(hQF S roots g∨g∈left.filter (fun b=>decide (b≠f))):=by
  intro g;by_cases e:g=f
  ·subst e;exact ⟨fun _=>.inl hf,fun _=>.inl hf⟩
  ·simp [List.mem_filter,e]
 exact ⟨fun g t=>by rw [h.node,key],fun t g=>by rw [h.number,key]⟩
theorem SwInv.goes {S:ST} (hw:WF S) {roots:List Int} {N':List (Int×Tri)} {U':List (Tri×Int)} {left:List Int} (h:SwInv S roots N' U' left) {f:Int} {t:Tri} (hf:¬ hQF S roots f) (ht:get S.N f=some t):SwInv S roots (del N' f) (del U' t) (left.filter (fun b=>decide (b≠f))):=by
 have key:∀ g,g≠f→((hQF S roots g∨g∈left)↔(hQF S roots g∨g∈left.filter (fun b=>decide (b≠f)))):=by
  intro g e;simp [List.mem_filter,e]
 have no:¬ (hQF S roots f∨f∈left.filter (fun b=>decide (b≠f))):=by simp [List.mem_filter,hf]
 refine ⟨fun g u=>?_,fun u g=>?_⟩
 ·rw [get_del];by_cases e:g=f
  ·subst e;simp only [if_true];exact ⟨fun x=>(nomatch x),fun x=>absurd x.2 no⟩
  ·rw [if_neg e,h.node,key g e]
 ·rw [get_del];by_cases e:u=t
  ·subst e;simp only [if_true];refine ⟨fun x=>(nomatch x),fun x=>?_⟩;have h1:=(hw.inv _ _).2 ht;rw [h1] at x;have:=Option.some.inj x.1;subst this;exact absurd x.2 no
  ·rw [if_neg e,h.number];constructor
   ·rintro ⟨h1,h2⟩;have hne:g≠f:=fun e2=>by
     subst e2;have:=(hw.inv _ _).1 h1;rw [ht] at this;exact e (Option.some.inj this).symm
    exact ⟨h1,(key g hne).1 h2⟩
   ·rintro ⟨h1,h2⟩;have hne:g≠f:=fun e2=>by
     subst e2;exact no h2
    exact ⟨h1,(key g hne).2 h2⟩
def leftCount (w:World) (it:Nat):Nat:=match w.heap[it]? with
 | some (.mapIter (some rm) _ seen _)=>(match w.heap[rm]? with
  | some (.map es _)=>(leftOf es seen).size
  | _=>0)
 | _=>0
theorem vQJ {α β:Type} {ek:α→Value} {ev:β→Value} {w:World} {rm it:Nat} {L:List (α×β)} {left:List α} (h:qQC ek ev w rm it L left):leftCount w it=left.length:=by
 obtain ⟨es,clock,since,seen,c0,h1,h2,h3,h4,h5,h6,h7,h8,hsc,h9⟩:=h;have:=congrArg List.length h9;simp only [List.length_map,Array.length_toList] at this;simp [leftCount,h6,h1,this]
theorem eI_inj (a b:Int) (h:eI a=eI b):a=b:=by cases h;rfl
def NoP (Q:Exit→Act→World→Prop):Exit→Act→World→Prop
 | .panic _,_,_=>False
 | e,a,w=>Q e a w
theorem NoP.normal {Q:Exit→Act→World→Prop} {a:Act} {w:World} (h:Q .normal a w):NoP Q .normal a w:=h
theorem NoP.out {Q:Exit→Act→World→Prop}:∀ (e:Exit) (a:Act) (w:World),NoP Q e a w→Q e a w:=fun e a w h=>by
 cases e with
 | panic c=>exact (h:False).elim
 | normal=>exact h
 | exit id=>exact h
 | goto l=>exact h
 | ret=>exact h
 | outgrown=>exact h
def ST.swp (S:ST) (N':List (Int×Tri)) (U':List (Tri×Int)):ST:={ S with N:=N',U:=U',K:=[] }
attribute [local go_sem] Oper.semAt_some
theorem sweep_in (n:Nat) {w:World} {B:SB} {S:ST} (hS:gQA w B S) (hw:WF S) (g0 c0:Nat) (roots:List Int) (hrow:lQB w g0 roots) (hg0:g0∉B.own) (hr:gQH S roots) (hlen:roots.length≤1000) (hN:∀ xs ws,NInv (S.withK []) roots ws xs→xs.length≤100000000) :
  CallsIn Fence.wide n prog 221 #[.pointer (some ⟨B.b,0,none⟩),.slice (some ⟨g0,0,none⟩) roots.length c0] w fun e w'=>e=.returned (.tuple #[])∧∃ S',gQA w' B S'∧Swept S S' roots∧aQA B.own w w':=by
 obtain ⟨o,hrun,hm⟩:=run_clear (P:=prog) underlying211 hS.known 0;have hrun':=fun (ty:TypeId)=>(show (Builtin.clear_ #[211] ty #[.map (some B.rk)]).run prog w=_ from hrun);clear hrun;have hSc:gQA (blk w B.rk o) B (S.withK []):=hS.knownBlk hm;have kc:aQA B.own w (blk w B.rk o):=(aQA.blk w B.rk o).mono (by simp [SB.own]);have hrowc:=hrow.kept kc hg0;have hszc:(blk w B.rk o).heap.size=w.heap.size:=by simp [blk]
 have c5:=hS.head.cell 5;simp at c5;have hmm:=@run_makeMap prog;refine callsIn_of_wp_marks func221 rfl trivial ?_ rfl;simp only [ntmps221,List.size_toArray,List.length_cons,List.length_nil,Nat.reduceAdd,Nat.reduceSub,Array.replicate_succ,Array.replicate_zero,List.push_toArray,List.append_toArray,List.nil_append,List.cons_append];gi_wp2_with fail
 refine ⟨trivial,fun h=>(nomatch h),?_⟩;refine (callsIn_wide.2 (nodes_calls _ _ _ _ _)).mono ?_;rintro e W ⟨rfl,rfl⟩;gi_wp2_with fail
 generalize hWc:blk w B.rk o=Wc at hm hSc kc hrowc hszc hrun' ⊢;clear hWc hrun' hm c5;rw [←hszc];have Hszc:=hide hszc;clear hszc;have z1:=size_alloc' Wc (.map #[] 0);have z2:=size_alloc' (Wc.alloc (.map #[] 0)) (.cells #[.map (some Wc.heap.size)] 338);have z3:=size_alloc' ((Wc.alloc (.map #[] 0)).alloc (.cells #[.map (some Wc.heap.size)] 338)) (.cells #[.pointer (some ⟨B.b,0,none⟩)] 135);have z4:=size_alloc' (((Wc.alloc (.map #[] 0)).alloc (.cells #[.map (some Wc.heap.size)] 338)).alloc (.cells #[.pointer (some ⟨B.b,0,none⟩)] 135)) (.cells #[.slice (some ⟨g0,0,none⟩) roots.length c0] 40);have a1:cQB eI eU (Wc.alloc (.map #[] 0)) Wc.heap.size ([]:List (Int×Unit)):=cQB.new Wc 0;have a2:=cQA.new (Wc.alloc (.map #[] 0)) #[.map (some Wc.heap.size)] 338;have a3:=cQA.new ((Wc.alloc (.map #[] 0)).alloc (.cells #[.map (some Wc.heap.size)] 338)) #[.pointer (some ⟨B.b,0,none⟩)] 135;have a4:=cQA.new (((Wc.alloc (.map #[] 0)).alloc (.cells #[.map (some Wc.heap.size)] 338)).alloc (.cells #[.pointer (some ⟨B.b,0,none⟩)] 135)) #[.slice (some ⟨g0,0,none⟩) roots.length c0] 40;have k1:=aQA.alloc [] Wc (.map #[] 0);have k2:=aQA.alloc [] (Wc.alloc (.map #[] 0)) (.cells #[.map (some Wc.heap.size)] 338);have k3:=aQA.alloc [] ((Wc.alloc (.map #[] 0)).alloc (.cells #[.map (some Wc.heap.size)] 338)) (.cells #[.pointer (some ⟨B.b,0,none⟩)] 135);have k4:=aQA.alloc [] (((Wc.alloc (.map #[] 0)).alloc (.cells #[.map (some Wc.heap.size)] 338)).alloc (.cells #[.pointer (some ⟨B.b,0,none⟩)] 135)) (.cells #[.slice (some ⟨g0,0,none⟩) roots.length c0] 40);rw [z1] at z2 a2;rw [z2] at z3 a3;rw [z3] at z4 a4;have b1:=((a1.kept k2 (by simp)).kept k3 (by simp)).kept k4 (by simp);have b2:=(a2.keeps k3 (by simp)).keeps k4 (by simp);have b3:=a3.keeps k4 (by simp);have kk:=((k1.trans k2).trans k3).trans k4;have hS4:=hSc.keeps kk (by simp);have hrow4:=hrowc.kept kk (by simp);clear k1 k2 k3 k4 a1 a2 a3 z1 z2 z3;generalize (((Wc.alloc (.map #[] 0)).alloc (.cells #[.map (some Wc.heap.size)] 338)).alloc (.cells #[.pointer (some ⟨B.b,0,none⟩)] 135)).alloc (.cells #[.slice (some ⟨g0,0,none⟩) roots.length c0] 40)=W0 at z4 a4 b1 b2 b3 kk hS4 hrow4 ⊢;have hlow:∀ i∈B.own,i<Wc.heap.size:=hSc.lt;have hit:=nodes_iter (S:=S.withK []) hS4 (withK_wf hw []) (Wc.heap.size+1+1+1) (Wc.heap.size+1+1) g0 c0 roots a4 b3 hrow4 hr hlen hN [Wc.heap.size] (by
  intro t ht;simp only [List.mem_singleton] at ht;subst ht;exact ⟨by omega,hSc.fresh' (Nat.le_refl _),by omega⟩)
 refine range_law (gf:=280) (lb:=#[.pointer (some ⟨Wc.heap.size+1+1+1,0,none⟩),.pointer (some ⟨Wc.heap.size+1+1,0,none⟩)]) rfl (enters_of func280 (by kernel_rfl) rfl) (T:=[Wc.heap.size]) (by simp;omega) hit (fun _=>rfl)
  (fun pre W=>cQA W (Wc.heap.size+1) #[.map (some Wc.heap.size)]∧∃ L,cQB eI eU W Wc.heap.size L∧∀ f,(get L f).isSome=true↔f∈pre.map Prod.fst)
  (fun pre W1 W2 ⟨h,L,h2,h3⟩ hb=>⟨h.of_heap (hb.block _ (by omega)),L,h2.of_heap (hb.block _ (by omega)),h3⟩) ⟨b2,[],b1,fun f=>by simp [uQL]⟩
  (fun x a' W=>a' = { tmps:=#[.pointer (some ⟨B.b,0,none⟩),.slice (some ⟨g0,0,none⟩) roots.length c0,undef,undef,.pointer (some ⟨Wc.heap.size+1,0,none⟩),.int .i64 x.1,undef,undef,undef,undef,.pointer (some ⟨B.b,0,none⟩),.pointer (some ⟨B.b,0,none⟩),.pointer (some ⟨B.b,5,none⟩),.map (some B.rk),.map (some Wc.heap.size),.pointer (some ⟨B.b,0,none⟩),.slice (some ⟨g0,0,none⟩) roots.length c0,.func (.func 280) #[] #[.pointer (some ⟨Wc.heap.size+1+1+1,0,none⟩),.pointer (some ⟨Wc.heap.size+1+1,0,none⟩)],.int .i64 x.1,.agg #[.int .i64 x.2.1,.int .i64 x.2.2.1,.int .i64 x.2.2.2],undef,undef,undef,undef,undef,undef,undef,undef,undef,undef,undef,undef,undef,undef,undef,undef,undef,undef,undef,undef,undef,undef,undef,undef,undef,undef,undef,undef,undef,undef,undef],defers:=[] })
  (fun x a' W1 W2 h _=>h) ?assign ?body ?done
 case assign=>
  intro l pre x W K hlt hi hc hK;simp only [eN,List.zip_toArray,List.zip_cons_cons,List.zip_nil_right,List.foldl_toArray',List.size_toArray,List.length_cons,List.length_nil,List.foldl_cons,List.foldl_nil,List.setIfInBounds_toArray,List.set_cons_succ,List.set_cons_zero];gi_wp2
  exact hK _ _ rfl (aQA.refl _ _)
 case body=>
  rintro l pre x a' W hlt ⟨hi,L,hL,hLi⟩ hc rfl;have c0':=hi.cell 0;simp at c0';obtain ⟨o2,hrun2,hm2⟩:=wQG (P:=prog) underlying338 key3 hL x.1 ();simp only [eI,eU] at hrun2;have k5:=aQA.blk W Wc.heap.size o2;have hi2:=hi.keeps k5 (by simp);gi_wp2
  refine ⟨⟨hi2,_,hm2,fun f=>?_⟩,k5⟩;rw [uQH];by_cases e:f=x.1
  ·subst e;simp
  ·rw [if_neg e,hLi];simp [e]
 case done=>
  rintro xs W hG ⟨hi,L,hL,hLi⟩ hk hlt hD;have hSW:=hS4.keeps hk (fun i hi x=>by simp only [List.mem_singleton] at x;have:=hlow i hi;omega);have kW:aQA [] Wc W:=kk.trans_new hk (by intro i hi;simp only [List.mem_singleton] at hi;exact .inr (by omega));have hneed:∀ f,(get L f).isSome=true↔hQF S roots f:=fun f=>by rw [hLi];exact hG.iff f
  obtain ⟨o3,hrun3,hmr⟩:=run_maprange (P:=prog) (K:=3) (E:=228) underlying209 hSW.nodes;have c2:=hSW.head.cell 2;simp at c2;have kR:=aQA.alloc [] W o3;have hD3:=(kR.block _ (Array.getElem?_eq_some_iff.1 hD).1 (by simp)).trans hD;have hi3:=hi.keeps kR (by simp);have hL3:=hL.kept kR (by simp);have hS3:=hSW.keeps kR (by simp);have kW3:=kW.trans kR;have HD3:=hide hD3;have Hrun3:=hrun3;clear hLi hG hD hit b1 b2 b3 a4 hrow4 hrowc;gi_wp2_with fail
  have kwW3:aQA B.own w (W.alloc o3):=kc.trans (kW3.mono (by simp));have hWs:Wc.heap.size+1+1+1+1≤W.heap.size:=by have:=hk.size;omega
  have hitown:W.heap.size∉B.own:=fun x=>by have:=hlow _ x;omega
  have hmr':qQC eI eT (W.alloc o3) B.rn W.heap.size S.N (S.N.map Prod.fst):=hmr;clear hrun3 Hrun3 hmr c2 kW3 kW kR hSW hi hL hk;gi_loopw [6] (fun _ wr=>∃ (N':List (Int×Tri)) (U':List (Tri×Int)) (left:List Int),qQC eI eT wr B.rn W.heap.size N' left∧gQA wr B (S.swp N' U')∧SwInv S roots N' U' left∧cQA wr (Wc.heap.size+1) #[.map (some Wc.heap.size)]∧cQB eI eU wr Wc.heap.size L∧Hid (wr.heap[W0.heap.size]?=some (.deferred (some [])))∧aQA B.own w wr)
   (fun _ wr=>leftCount wr W.heap.size)
  case atStart=>exact ⟨S.N,S.U,S.N.map Prod.fst,hmr',hS3,SwInv.start hw roots,hi3,hL3,HD3,kwW3⟩
  case round=>
   obtain ⟨N',U',left,hmr,hSr,hinv,hbox,hneedm,HD,hkr⟩:=hrel;clear hmr' hS3 hi3 hL3 HD3 kwW3;have hcnt:=vQJ hmr;have Hcnt:=hide hcnt;clear hcnt;rcases hmr.next (P:=prog) eI_inj 0 with ⟨hl,hrun⟩ | ⟨f,t,W1,hf,ht,hrun,hen,hmr1,k1,hs1⟩
   ·have hrun':=fun (ty:TypeId)=>(show (Instr.next (.pointer (some ⟨W.heap.size,0,none⟩)) false ty).run prog wr=_ from hrun);clear hrun;gi_wp2_with fail
    refine ⟨by simp,.inl ⟨_,_,rfl,run_takeDeferred HD.out,?_⟩⟩;refine ⟨_,results_none rfl _ _ _,rfl,S.swp N' U',?_,?_,?_⟩
    ·exact hSr.keeps (aQA.putObj wr W0.heap.size _) (fun i hi x=>by simp only [List.mem_singleton] at x;have:=hlow i hi;omega)
    ·subst hl;exact ⟨rfl,rfl,rfl,rfl,fun f t=>by rw [show (S.swp N' U').N=N' from rfl,hinv.node];simp,fun t f=>by rw [show (S.swp N' U').U=U' from rfl,hinv.number];simp⟩
    ·refine hkr.trans_new (aQA.putObj wr W0.heap.size _) (fun i hi=>?_);simp only [List.mem_singleton] at hi;have:=Hszc.out;exact .inr (by omega)
   ·have hrun':=fun (ty:TypeId)=>(show (Instr.next (.pointer (some ⟨W.heap.size,0,none⟩)) false ty).run prog wr=_ from hrun);obtain ⟨v,lo,hi⟩:=t;simp only [eI,eT] at hrun' hen;clear hrun;have htS:=((hinv.node _ _).1 ht).1;have hits:∀ i∈B.own,i∉[W.heap.size]:=fun i hi x=>by simp only [List.mem_singleton] at x;exact hitown (x ▸ hi)
    have hS1:=hSr.keeps k1 hits;have hbox1:=hbox.keeps k1 (by simp;omega);have hneed1:=hneedm.kept k1 (by simp;omega);have kA:=aQA.alloc [] W1 (.cells #[.int .i64 v,.int .i64 lo,.int .i64 hi] 228);have hNA:=cQA.new W1 #[.int .i64 v,.int .i64 lo,.int .i64 hi] 228;have hbA:=hbox1.keeps kA (by simp);have hnA:=hneed1.kept kA (by simp);have cb:=hbA.cell 0;simp at cb;have hlk:=xQD (P:=prog) underlying338 key3 (z:=.agg #[]) zero339 hnA f true;have kB:=aQA.alloc [] (W1.alloc (.cells #[.int .i64 v,.int .i64 lo,.int .i64 hi] 228)) (.cells #[] 339);have kAB:=kA.trans kB;have hmrB:=hmr1.of_heap (w':=(W1.alloc (.cells #[.int .i64 v,.int .i64 lo,.int .i64 hi] 228)).alloc (.cells #[] 339)) (kAB.block _ hmr1.is.lt (by simp)) (kAB.block _ hmr1.it_lt (by simp));have hSB:=hS1.keeps kAB (by simp);have hbB:=hbox1.keeps kAB (by simp);have hnB:=hneed1.kept kAB (by simp);have hNB:=hNA.keeps kB (by simp);have hszI:W0.heap.size<wr.heap.size:=(Array.getElem?_eq_some_iff.1 HD.out).1;have hDB:Hid ((((W1.alloc (.cells #[.int .i64 v,.int .i64 lo,.int .i64 hi] 228)).alloc (.cells #[] 339)).heap)[W0.heap.size]?=some (.deferred (some []))):=by
     refine (kAB.block _ ?_ (by simp)).trans ((k1.block _ hszI ?_).trans HD.out)
     ·have:=k1.size;omega
     ·simp only [List.mem_singleton];intro e;have hx:=HD.out;rw [e] at hx;obtain ⟨_,_,_,_,_,_,_,_,_,_,h6,_⟩:=hmr;rw [h6] at hx;cases hx
    have hkB:aQA B.own w ((W1.alloc (.cells #[.int .i64 v,.int .i64 lo,.int .i64 hi] 228)).alloc (.cells #[] 339)):=(hkr.trans_new (k1.trans (kAB.mono (by simp))) (fun i hi=>by simp only [List.mem_singleton] at hi;have:=Hszc.out;exact .inr (by omega)));have hfl:f∉left.filter (fun b=>decide (b≠f)):=(by simp [List.mem_filter]);have hless:(left.filter (fun b=>decide (b≠f))).length<left.length:=by
     have h1:=List.length_filter_lt_length_iff_exists (l:=left) (p:=fun b=>decide (b≠f));exact h1.2 ⟨f,hf,by simp⟩
    by_cases hrf:hQF S roots f
    ·have hsome:=(hneed f).2 hrf;obtain ⟨u,hu⟩:=Option.isSome_iff_exists.1 hsome;simp only [hu,Option.map_some,Option.getD_some,eI,eU,Option.isSome_some,if_true] at hlk;have hcB:=vQJ hmrB;have HcB:=hide hcB;clear hcB hsome hu;gi_wp2_with fail
     refine ⟨⟨N',U',_,hmrB,hSB,hinv.stays hrf,hbB,hnB,hDB,hkB⟩,?_⟩;rw [Hcnt.out,HcB.out];exact hless
    ·have hnone:get L f=none:=by
      cases hg:get L f with
      | none=>rfl
      | some u=>exact absurd ((hneed f).1 (by rw [hg];rfl)) hrf
     simp only [hnone,Option.map_none,Option.getD_none,eI,Option.isSome_none,if_true] at hlk;obtain ⟨o4,hrun4,hmr4⟩:=hmrB.del (P:=prog) (T:=209) (E:=228) underlying209 key3 eI_inj f hfl 0;have hrun4':=fun (ty:TypeId)=>(show (Builtin.delete_ #[209,3] ty #[.map (some B.rn),.int .i64 f]).run prog ((W1.alloc (.cells #[.int .i64 v,.int .i64 lo,.int .i64 hi] 228)).alloc (.cells #[] 339))=_ from hrun4);clear hrun4 hnone;have hS4':=hSB.nodesBlk hmr4.is;have cn:=hSB.head.cell 2;simp at cn;have k4:aQA [B.rn] ((W1.alloc (.cells #[.int .i64 v,.int .i64 lo,.int .i64 hi] 228)).alloc (.cells #[] 339)) (blk ((W1.alloc (.cells #[.int .i64 v,.int .i64 lo,.int .i64 hi] 228)).alloc (.cells #[] 339)) B.rn o4):=aQA.blk _ _ _;have hrnl:B.rn<Wc.heap.size:=hlow _ (by simp [SB.own]);have hN4:=hNB.keeps k4 (by simp;have:=k1.size;omega);have hb4:=hbB.keeps k4 (by simp;omega);have hn4:=hnB.kept k4 (by simp;omega);have hD4:Hid ((blk ((W1.alloc (.cells #[.int .i64 v,.int .i64 lo,.int .i64 hi] 228)).alloc (.cells #[] 339)) B.rn o4).heap[W0.heap.size]?=some (.deferred (some []))):=(k4.block _ (Array.getElem?_eq_some_iff.1 hDB.out).1 (by simp;omega)).trans hDB.out;have hk4:=hkB.trans (k4.mono (by simp [SB.own]));have hfol:prog.follows .mixedOrders=true:=(by kernel_rfl);gi_wp2_with fail
     clear hrun4' hlk cn hen hrun' cb;generalize blk ((W1.alloc (.cells #[.int .i64 v,.int .i64 lo,.int .i64 hi] 228)).alloc (.cells #[] 339)) B.rn o4=W4 at hmr4 hS4' hN4 hb4 hn4 hD4 hk4 ⊢;rw [hs1] at hN4;have hS5:=hS4'.drew;have c3:=hS4'.head.cell 3;have n0:=hN4.cell 0;have n1:=hN4.cell 1;have n2:=hN4.cell 2;simp at c3 n0 n1 n2;obtain ⟨o5,hrun5,hm5⟩:=run_del (P:=prog) underlying210 key228 hS5.numbers (v,lo,hi) 0;have hrun5':=fun (ty:TypeId)=>(show (Builtin.delete_ #[210,228] ty #[.map (some B.ru),.agg #[.int .i64 v,.int .i64 lo,.int .i64 hi]]).run prog W4.drew=_ from hrun5);clear hrun5;have hne:=SB.own_ne hS.apart;have k5:aQA [B.ru] W4.drew (blk W4.drew B.ru o5):=aQA.blk _ _ _;have k45:aQA [B.ru] W4 (blk W4.drew B.ru o5):=(aQA.drew _ _).trans k5;have hrul:B.ru<Wc.heap.size:=hlow _ (by simp [SB.own]);have hmr5:=hmr4.of_heap (w':=blk W4.drew B.ru o5) (k45.block _ hmr4.is.lt (by simp;exact hne.2.2.2.2.2.2.2.2.2.2.2.2.1)) (k45.block _ hmr4.it_lt (by simp;omega));have hS6:gQA (blk W4.drew B.ru o5) B (S.swp (del N' f) (del U' (v,lo,hi))):=hS5.numbersBlk hm5;have hb5:=hb4.keeps k45 (by simp;omega);have hn5:=hn4.kept k45 (by simp;omega);have hD5:Hid ((blk W4.drew B.ru o5).heap[W0.heap.size]?=some (.deferred (some []))):=(k45.block _ (Array.getElem?_eq_some_iff.1 hD4.out).1 (by simp;omega)).trans hD4.out;have hk5:=hk4.trans (k45.mono (by simp [SB.own]));have hc5:=vQJ hmr5;have Hc5:=hide hc5;clear hc5;refine wpIn_mono (Q:=NoP _) ?_ NoP.out;gi_region_with_o (fail)
     all_goals
      refine NoP.normal ?_;gi_wp2_with fail
      refine ⟨⟨del N' f,del U' (v,lo,hi),_,hmr5,hS6,hinv.goes hw hrf htS,?_⟩,?_⟩
      ·have h5:=hD5.out;rw [z4] at h5;exact h5
      ·rw [Hcnt.out,Hc5.out];exact hless
theorem sweep_callsE {w:World} {B:SB} {S:ST} (hS:gQA w B S) (hw:WF S) (g0 c0:Nat) (roots:List Int) (hrow:lQB w g0 roots) (hg0:g0∉B.own) (hr:gQH S roots) (hlen:roots.length≤1000) (hn:S.n≤12) :
  Calls prog 221 #[.pointer (some ⟨B.b,0,none⟩),.slice (some ⟨g0,0,none⟩) roots.length c0] w fun e w'=>e=.returned (.tuple #[])∧∃ S',gQA w' B S'∧Swept S S' roots∧aQA B.own w w':=
 callsIn_wide.1 (sweep_in 0 hS hw g0 c0 roots hrow hg0 hr hlen (fun _ _ h=>NInv.few (withK_wf hw []) hr h hn hlen))
end
section
open Go.RowKit
def openCnt (listed:Array Bool):Nat:=(listed.toList.filter (fun b=>!b)).length
theorem openCnt_set {listed:Array Bool} {i:Nat} (h:listed.getD i true=false):openCnt (listed.setIfInBounds i true)+1=openCnt listed:=by
 have hi:i<listed.size:=by
  rcases Nat.lt_or_ge i listed.size with q | q
  ·exact q
  ·simp [Array.getD,Nat.not_lt.2 q] at h
 have hv:listed.toList[i]?=some false:=by
  simp [Array.getD,hi] at h;simp [hi,h]
 unfold openCnt;rw [Array.toList_setIfInBounds];generalize listed.toList=l at *;clear h hi;induction l generalizing i with
 | nil=>simp at hv
 | cons b l ih=>
  cases i with
  | zero=>simp at hv;subst hv;simp
  | succ i=>
   have:=ih (i:=i) (by simpa using hv);simp only [List.set_cons_succ,List.filter_cons];split
   ·simp only [List.length_cons];omega
   ·exact this
theorem ready_spec {md:Region.Mode} {ops:Array Oper} {listed:Array Bool} {i:Nat} (h:i∈Region.ready md ops listed):i<ops.size∧listed.getD i true=false∧∀ o,ops[i]?=some o→∀ e∈o.after,Region.binds md e=true→listed.getD e.on false=true:=by
 simp only [Region.ready,List.mem_filter,List.mem_range,Bool.and_eq_true,Bool.not_eq_true'] at h;refine ⟨h.1,h.2.1,fun o ho e he hb=>?_⟩;have h2:=h.2.2;rw [ho] at h2;simp only [Option.map_some,Option.getD_some,Array.all_eq_true_iff_forall_mem] at h2;have:=h2 e he;rw [hb] at this;simpa using this
section
variable {n l:Nat} {P:Program} {ops:Array Oper} {Q:Exit→Act→World→Prop} {md:Region.Mode}
theorem wpAnyIn_inv {F:Fence} {S:Array Bool→Act→World→Prop} (hstep:∀ listed a w i,S listed a w→i∈Region.ready md ops listed→wpOpIn F n P ops Q i (S (listed.setIfInBounds i true)) a w) (hend:∀ listed a w,S listed a w→Region.ready md ops listed=[]→Q .normal a w):∀ fuel listed a w,openCnt listed≤fuel→S listed a w→wpAnyIn F n P md ops Q fuel listed a w:=by
 intro fuel;induction fuel with
 | zero=>
  intro listed a w h hS;have hr:Region.ready md ops listed=[]:=by
   rw [List.eq_nil_iff_forall_not_mem];intro i hi;have:=openCnt_set (ready_spec hi).2.1;omega
  exact ⟨hr,hend _ _ _ hS hr⟩
 | succ fuel ih=>
  intro listed a w h hS;refine ⟨fun hr=>hend _ _ _ hS hr,fun i hi=>wpOpIn_mono (fun a w=>ih _ a w ?_) (hstep _ _ _ _ hS hi)⟩;have:=openCnt_set (ready_spec hi).2.1;omega
theorem wpIn_region_inv {F:Fence} {id:Nat} {a:Act} {w:World} {S:Array Bool→Act→World→Prop} (hm:P.follows .mixedOrders=true) (h0:S (Array.replicate ops.size false) a w.drew) (hstep:∀ listed a w i,S listed a w→i∈Region.ready .any ops listed→wpOpIn F n P ops Q i (S (listed.setIfInBounds i true)) a w) (hend:∀ listed a w,S listed a w→Region.ready .any ops listed=[]→Q .normal a w):(Code.region id ops true).wpIn F n P Q a w:=
 wpIn_region_any hm (wpAnyIn_inv hstep hend _ _ _ _ (by simp [openCnt]) h0)
theorem opIn {i:Nat} {o:Oper} {K:Act→World→Prop} {a:Act} {w:World} (ho:ops[i]?=some o) (hg:o.guard=none) (hd:∀ c,o.op≠.defer c) (h:o.uponIn (Fence.wide.inRound l) n P a K Q ((execOp a.eval o).run P w)):wpOpIn (Fence.wide.inRound l) n P ops Q i K a w:=by
 unfold wpOpIn;simp only [ho];have hw:Region.wanted o (yielded ops a.tmps)=true:=by simp [Region.wanted,hg]
 rw [if_pos hw];refine ⟨fun _ _=>trivial,?_⟩;rw [Oper.semAt_eq _ _ _ hd];exact h
theorem cQD {i:Nat} {o:Oper} {K:Act→World→Prop} {a:Act} {w w':World} {v:Value} (ho:ops[i]?=some o) (hg:o.guard=none) (hd:∀ c,o.op≠.defer c) (hr:(execOp a.eval o).run P w=.ok (.value v) w') (h:K (a.put o.dst v) w'):wpOpIn (Fence.wide.inRound l) n P ops Q i K a w:=by
 refine opIn ho hg hd ?_;rw [hr];exact h
theorem opIn_skip {i:Nat} {o:Oper} {K:Act→World→Prop} {a:Act} {w w':World} (ho:ops[i]?=some o) (hg:o.guard=none) (hd:∀ c,o.op≠.defer c) (hr:(execOp a.eval o).run P w=.ok .skip w') (h:K (a.put o.dst undef) w'):wpOpIn (Fence.wide.inRound l) n P ops Q i K a w:=by
 refine opIn ho hg hd ?_;rw [hr];exact h
theorem opIn_call {i:Nat} {o:Oper} {K:Act→World→Prop} {a:Act} {w w':World} {f:Nat} {args:Array Value} {R:Ending→World→Prop} (ho:ops[i]?=some o) (hg:o.guard=none) (hd:∀ c,o.op≠.defer c) (hr:(execOp a.eval o).run P w=.ok (.enter f args) w') (hc:Calls P f args w' R) (h:∀ e w'',R e w''→∃ v,e=.returned v∧K (a.put o.dst v) w''):wpOpIn (Fence.wide.inRound l) n P ops Q i K a w:=by
 refine opIn ho hg hd ?_;rw [hr];refine ⟨fun h=>(nomatch h),CallsIn.inRound l ((callsIn_wide.2 hc).mono ?_)⟩;intro e w'' he;obtain ⟨v,rfl,hk⟩:=h e w'' he;exact hk
end
theorem put_eval {a:Act} {d j:Nat} {v:Value} (h:j≠d):(a.put (some d) v).eval (.tmp j)=a.eval (.tmp j):=by
 simp only [Act.put,Act.eval,Array.getD_eq_getD_getElem?,Array.getElem?_setIfInBounds];rw [if_neg (fun e=>h e.symm)]
theorem mQG {a:Act} {d:Nat} {v:Value} (h:d<a.tmps.size):(a.put (some d) v).eval (.tmp d)=v:=by
 simp [Act.put,Act.eval,Array.getD_eq_getD_getElem?,h]
theorem put_size {a:Act} {d:Option Nat} {v:Value}:(a.put d v).tmps.size=a.tmps.size:=by
 cases d <;> simp [Act.put]
theorem put_defers {a:Act} {d:Option Nat} {v:Value}:(a.put d v).defers=a.defers:=by
 cases d <;> simp [Act.put]
end
end Go.Proofs.YtgjomknpjigkhaaGreatDoor
