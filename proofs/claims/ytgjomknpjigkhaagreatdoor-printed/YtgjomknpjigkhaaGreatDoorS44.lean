import Derived.Test.YtgjomknpjigkhaaGreatDoorS43
namespace Go.Proofs.YtgjomknpjigkhaaGreatDoor
set_option maxRecDepth 100000
set_option maxHeartbeats 4000000
section
open Go.RowKit Go.Shelf
attribute [local go_sem] Oper.semAt_some
structure GrT (b:Nat) (τ:TypeId) (T:List Nat) (w w':World):Prop where
 os:w'.os=w.os
 tape:w'.tape=w.tape
 output:w'.output=w.output
 size:w.heap.size≤w'.heap.size
 block:∀ i,i<w.heap.size→i∉T→¬ (b≤i∧∃ cs f,w.heap[i]?=some (.cells cs τ f))→w'.heap[i]?=w.heap[i]?
theorem GrT.refl (b:Nat) (τ:TypeId) (T:List Nat) (w:World):GrT b τ T w w:=⟨rfl,rfl,rfl,Nat.le_refl _,fun _ _ _ _=>rfl⟩
theorem GrT.trans {b:Nat} {τ:TypeId} {T:List Nat} {x y z:World} (h:GrT b τ T x y) (k:GrT b τ T y z):GrT b τ T x z:=
 ⟨k.os.trans h.os,k.tape.trans h.tape,k.output.trans h.output,Nat.le_trans h.size k.size,fun i hi hT hc=>by
  have e:=h.block i hi hT hc
  refine (k.block i (Nat.lt_of_lt_of_le hi h.size) hT ?_).trans e
  rw [e];exact hc⟩
theorem GrT.mono {b:Nat} {τ:TypeId} {T T':List Nat} {w w':World} (h:GrT b τ T w w') (hT:∀ i∈T,i∈T'):GrT b τ T' w w':=
 ⟨h.os,h.tape,h.output,h.size,fun i hi hn hc=>h.block i hi (fun x=>hn (hT i x)) hc⟩
theorem GrT.drop {b l:Nat} {τ:TypeId} {T:List Nat} {w w':World} (h:GrT b τ (l :: T) w w') (hl:w.heap.size≤l):GrT b τ T w w':=
 ⟨h.os,h.tape,h.output,h.size,fun i hi hn hc=>h.block i hi (fun x=>(List.mem_cons.1 x).elim (fun e=>by omega) hn) hc⟩
theorem Keeps.grT {b:Nat} {τ:TypeId} {T T':List Nat} {w w':World} (h:Keeps T w w') (hT:∀ i∈T,i∈T'):GrT b τ T' w w':=
 ⟨h.os,h.tape,h.output,h.size,fun i hi hn _=>h.block i hi (fun x=>hn (hT i x))⟩
theorem Keeps.grTrow {b:Nat} {τ:TypeId} {T T':List Nat} {w w':World} (h:Keeps T w w') (hT:∀ i∈T,i∈T'∨(b≤i∧∃ cs f,w.heap[i]?=some (.cells cs τ f))):GrT b τ T' w w':=
 ⟨h.os,h.tape,h.output,h.size,fun i hi hn hc=>h.block i hi (fun x=>(hT i x).elim hn hc)⟩
theorem StoreAt.grT {w w':World} {B:SB} {S:ST} {b:Nat} {τ:TypeId} {T:List Nat} (h:StoreAt w B S) (k:GrT b τ T w w') (hT:∀ i∈B.own,i∉T) (hB:∀ i∈B.own,i<b):StoreAt w' B S:=
 h.of_heap (fun i hi=>k.block i (h.lt i hi) (hT i hi) (fun q=>by have:=hB i hi;have:=q.1;omega))
def IterT {α:Type} (τ:TypeId) (b:Nat) (gf:FuncId) (lb:Array Value) (encs:α→Array Value) (cond:List α→α→World→Prop) (Good:List α→Prop) (T:List Nat) (w:World):Prop:=
 ∀ (n l:Nat) (J:List α→World→Prop) (W:World),w.heap.size≤l→l<W.heap.size→Go.RowKit.Below w.heap.size w W →
  (∀ pre W1 W2,J pre W1→Still W.heap.size W1 W2→J pre W2) →
  (∀ pre x W1,J pre W1→cond pre x W1→YieldAt Fence.wide (n - 1) Tryz.prog l (encs x) W1 fun e W'=>e=.returned (.bool true)∧J (pre++[x]) W'∧GrT b τ (l :: T) W1 W') →
  J [] W →
  CallsIn Fence.wide n Tryz.prog gf (#[.func (.yield l) #[] #[]]++lb) W fun e W'=>(∃ v,e=.returned v)∧∃ xs,Good xs∧J xs W'∧GrT b τ (l :: T) W W'
def bodyPostT (I:World→Prop) (b:Nat) (τ:TypeId) (T:List Nat) (W:World):Exit→Act→World→Prop
 | .normal,_,W'=>I W'∧GrT b τ T W W'
 | _,_,_=>False
theorem range_lawT {α:Type} {n:Nat} {g:Operand} {ps:Array Tmp} {assign body:Code} {Q:Exit→Act→World→Prop} {a:Act} {w:World} {gf:Nat} {lb:Array Value} (hg:a.eval g=.func (.func gf) #[] lb)
  (eg:∀ args w,(callFunc gf args).run Tryz.prog w=.ok (.enter gf args) w) {encs:α→Array Value} {cond:List α→α→World→Prop} {Good:List α→Prop} {T:List Nat} {τ:TypeId} {b:Nat} (hT:∀ t∈T,t<w.heap.size) (hseq:IterT τ b gf lb encs cond Good T w) (hcond:∀ pre x W1 W2,cond pre x W1→Still w.heap.size W1 W2→cond pre x W2) (hps:∀ x,(encs x).size=ps.size)
  (I:List α→World→Prop) (hI:∀ pre W1 W2,I pre W1→Still w.heap.size W1 W2→I pre W2) (h0:I [] w) (Ax:α→Act→World→Prop) (hAx:∀ x a' W1 W2,Ax x a' W1→Keeps [w.heap.size+1] W1 W2→Ax x a' W2)
  (hassign:∀ (l:Nat) (pre:List α) (x:α) (W:World) (K:Act→World→Prop),w.heap.size+1<W.heap.size→I pre W→cond pre x W→(∀ a' W',Ax x a' W'→Keeps [] W W'→K a' W') →
   assign.wpIn (Fence.wide.inRound l) (n - 1 - 1) Tryz.prog (Exit.then K (fun _ _ _=>False)) { tmps:=(ps.zip (encs x)).foldl (fun t (p,v)=>t.setIfInBounds p v) a.tmps,defers:=[] } W)
  (hbody:∀ (l:Nat) (pre:List α) (x:α) (a':Act) (W:World),w.heap.size+1<W.heap.size→I pre W→cond pre x W→Ax x a' W→body.wpIn (Fence.wide.inRound l) (n - 1 - 1) Tryz.prog (bodyPostT (I (pre++[x])) b τ T W) a' W)
  (hdone:∀ (xs:List α) (W:World),Good xs→I xs W→GrT b τ T w W→w.heap.size<W.heap.size→W.heap[w.heap.size]?=some (.deferred (some []))→Q .normal { a with defers:={ target:=.collected w.heap.size,args:=#[] } :: a.defers } W) :
  (Code.rangeFunc g ps assign body).wpIn Fence.wide n Tryz.prog Q a w:=by
 refine wpIn_rangeFunc ?_
 intro fn hfn
 show ∃ l mark w₁ d w₁' f args w₂,(Instr.enterLoop fn a.tmps ps assign body none).run Tryz.prog w=_∧_
 let rec1:LoopState→Loop:=fun st=>{ state:=st,pending:=none,fn,tmps:=a.tmps,params:=ps,assign,body,defers:=w.heap.size }
 obtain ⟨W1,hW1⟩:∃ W1,(w.alloc (.deferred (some []))).alloc (.loop (rec1 .ready))=W1:=⟨_,rfl⟩
 have k1:Keeps [] w W1:=by rw [←hW1];exact (Keeps.alloc _ _ _).trans (Keeps.alloc _ _ _)
 have hD1:W1.heap[w.heap.size]?=some (.deferred (some [])):=by
  rw [←hW1];exact (Go.RowKit.Below.heap_alloc _ _ _ (by simp)).trans (World.alloc_heap_new w _)
 have hL1:W1.heap[w.heap.size+1]?=some (.loop (rec1 .ready)):=by
  rw [←hW1];have:=World.alloc_heap_new (w.alloc (.deferred (some []))) (.loop (rec1 .ready));rwa [World.size_alloc] at this
 have hs1:W1.heap.size=w.heap.size+1+1:=by rw [←hW1];simp
 refine ⟨w.heap.size+1,[{ target:=.collected w.heap.size,args:=#[] }],W1,{ target:=.fn (.func gf) lb,args:=#[.func (.yield (w.heap.size+1)) #[] #[]] },W1,gf,
  #[.func (.yield (w.heap.size+1)) #[] #[]]++lb,W1,?_,?_,fun _ _=>trivial,?_,fun h=>(nomatch h),?_⟩
 ·rw [←hW1];exact run_enterLoop_outer _ _ _ _ _
 ·simp only [resolve,hg]
  simp [go_sem]
 ·simp [invoke,go_sem,eg]
 ·refine (hseq (n - 1) (w.heap.size+1) (fun pre W=>I pre W∧W.heap[w.heap.size+1]?=some (.loop (rec1 .ready))∧W.heap[w.heap.size]?=some (.deferred (some []))) W1 (by omega) (by omega)
   (k1.below (Nat.le_refl _) (by simp)) ?_ ?_ ⟨hI _ _ _ h0 (k1.still (by simp)),hL1,hD1⟩).mono ?_
  ·rintro pre A B ⟨i,l,d⟩ hb
   exact ⟨hI _ _ _ i (hb.mono (by omega)),(hb.block _ (Array.getElem?_eq_some_iff.1 l).1 (.inl (by omega))).trans l,(hb.block _ (Array.getElem?_eq_some_iff.1 d).1 (.inl (by omega))).trans d⟩
  ·rintro pre x W ⟨hi,hl,hd⟩ hc
   have hlt:w.heap.size+1<W.heap.size:=(Array.getElem?_eq_some_iff.1 hl).1
   refine ⟨fn,_,assign,body,run_yield (P:=Tryz.prog) (args:=encs x) hl (hps x),roundIn_of_wpIn trivial (hassign _ pre x W _ hlt hi hc ?_)⟩
   intro a' W' hax hk
   have hl':W'.heap[w.heap.size+1]?=some (.loop (rec1 .ready)):=(hk.block _ hlt (by simp)).trans hl
   have hd':W'.heap[w.heap.size]?=some (.deferred (some [])):=(hk.block _ (by omega) (by simp)).trans hd
   have hlt':w.heap.size+1<W'.heap.size:=(Array.getElem?_eq_some_iff.1 hl').1
   have hi':I pre W':=hI _ _ _ hi (hk.still (by simp))
   have k2:=Keeps.putObj W' (w.heap.size+1) (.loop (rec1 .busy))
   have s2:Still w.heap.size W' (W'.putObj (w.heap.size+1) (.loop (rec1 .busy))):=k2.still (by simp only [List.mem_singleton];rintro i rfl;exact ⟨by omega,by rw [hl'];intro _ _ _ e;cases e⟩)
   have hl2:(W'.putObj (w.heap.size+1) (.loop (rec1 .busy))).heap[w.heap.size+1]?=some (.loop (rec1 .busy)):=World.putObj_heap_same hlt'
   have hd2:(W'.putObj (w.heap.size+1) (.loop (rec1 .busy))).heap[w.heap.size]?=some (.deferred (some [])):=(World.putObj_heap_other (by omega)).trans hd'
   refine ⟨_,run_beginRound hl' rfl,?_⟩
   refine wpIn_mono (hbody _ pre x a' (W'.putObj (w.heap.size+1) (.loop (rec1 .busy))) (Array.getElem?_eq_some_iff.1 hl2).1 (hI _ _ _ hi' s2) (hcond _ _ _ _ (hcond _ _ _ _ hc (hk.still (by simp))) s2) (hAx _ _ _ _ hax k2)) ?_
   rintro e a3 W3 hp
   cases e with
   | normal=>
    obtain ⟨hi3,k3⟩:=hp
    have hl3:W3.heap[w.heap.size+1]?=some (.loop (rec1 .busy)):=(k3.block _ (Array.getElem?_eq_some_iff.1 hl2).1 (fun x=>by have:=hT _ x;omega) (by rw [hl2];rintro ⟨_,_,_,e⟩;cases e)).trans hl2
    have hd3:W3.heap[w.heap.size]?=some (.deferred (some [])):=(k3.block _ (Array.getElem?_eq_some_iff.1 hd2).1 (fun x=>by have:=hT _ x;omega) (by rw [hd2];rintro ⟨_,_,_,e⟩;cases e)).trans hd2
    have hlt3:=(Array.getElem?_eq_some_iff.1 hl3).1
    have k4:=Keeps.putObj W3 (w.heap.size+1) (.loop (rec1 .ready))
    refine ⟨_,_,run_endRound none hl3,rfl,⟨hI _ _ _ hi3 (k4.still (by simp only [List.mem_singleton];rintro i rfl;exact ⟨by omega,by rw [hl3];intro _ _ _ e;cases e⟩)),World.putObj_heap_same hlt3,(World.putObj_heap_other (by omega)).trans hd3⟩,?_⟩
    exact (((hk.grT (by simp)).trans (k2.grT (by simp))).trans (k3.mono (fun i hi=>List.mem_cons_of_mem _ hi))).trans (k4.grT (by simp))
   | ret=>exact hp.elim
   | exit id=>exact hp.elim
   | goto t=>exact hp.elim
   | panic c=>exact hp.elim
   | outgrown=>exact hp.elim
  ·rintro e W2 ⟨⟨v,rfl⟩,xs,hG,⟨hi,hl,hd⟩,k2⟩
   have k5:=Keeps.putObj W2 (w.heap.size+1) (.loop (rec1 .exhausted))
   have hlt2:=(Array.getElem?_eq_some_iff.1 hl).1
   refine ⟨none,_,run_endLoop hl (by simp [rec1]),?_⟩
   refine hdone xs _ hG (hI _ _ _ hi (k5.still (by simp only [List.mem_singleton];rintro i rfl;exact ⟨by omega,by rw [hl];intro _ _ _ e;cases e⟩))) ?_ (by simp;omega) ((World.putObj_heap_other (by omega)).trans hd)
   exact ((k1.grT (by simp)).trans (k2.trans (k5.grT (by simp)))).drop (by omega)
def TellT (τ:TypeId) (b:Nat) (B:SB) (S:ST) (l:Nat) (J:List Nat→World→Prop) (T L:List Nat) (z k:Nat):Prop:=
 ∀ (i:Nat) (f:Int) (a c:Nat) (pre:List Nat) (W:World),i+k≤S.n→S.n≤12→k+3≤c→a<2 ^ i→S.ok f→(i:Int)≤S.lev f→(pre++S.tl k i f a) <+: L→StoreAt W B S→z≤W.heap.size→J pre W →
  Calls Tryz.prog 154 #[.pointer (some ⟨B.b,0,none⟩),.int .i64 f,.int .i64 (a:Int),.slice (some ⟨B.bo,i,none⟩) k c,.func (.yield l) #[] #[]] W fun e W'=>e=.returned (.bool true)∧J (pre++S.tl k i f a) W'∧GrT b τ (l :: T) W W'
theorem tell_stepT {τ:TypeId} {b:Nat} {B:SB} {S:ST} (hw:WF S) (hid:Idn S) (ho:∀ i:Nat,i<S.n→S.order[i]?=some (i:Int)) {l:Nat} {J:List Nat→World→Prop} {T L:List Nat} {z:Nat} (hJ:Hid (∀ pre W1 W2,J pre W1→Still z W1 W2→J pre W2)) (hT:∀ i∈B.own,i∉l :: T) (hB:∀ i∈B.own,i<b) {k:Nat} (ih:Hid (TellT τ b B S l J T L z k))
  (i:Nat) (f:Int) (a c:Nat) (pre:List Nat) (W:World) (hn:i+(k+1)≤S.n) (n12:S.n≤12) (hc:k+1+3≤c) (ha:a<2 ^ i) (hf:S.ok f) (hf0:(f == 0)=false) (hl:(i:Int)≤S.lev f) (hpre:Hid ((pre++(S.tl k (i+1) (S.cof f i).1 a++S.tl k (i+1) (S.cof f i).2 (a+2 ^ i))) <+: L)) (hS:StoreAt W B S) (hz:z≤W.heap.size) (h0:J pre W) :
  Calls Tryz.prog 154 #[.pointer (some ⟨B.b,0,none⟩),.int .i64 f,.int .i64 (a:Int),.slice (some ⟨B.bo,i,none⟩) (k+1) c,.func (.yield l) #[] #[]] W fun e W'=>e=.returned (.bool true)∧J (pre++(S.tl k (i+1) (S.cof f i).1 a++S.tl k (i+1) (S.cof f i).2 (a+2 ^ i))) W'∧GrT b τ (l :: T) W W':=by
 have hi12:i<12:=by omega
 have hi:(i:Int)<S.n:=by omega
 have hpi:=hid i (by omega) hi
 obtain ⟨ok0,ok1,l0,l1,_,_,_⟩:=cof_spec hw hf (u:=i) (by omega) hi (by rw [hpi];exact hl)
 rw [hpi] at l0 l1
 have hc0:=hS.order.cell (ho i (by omega))
 have hsp:=hide (split_calls hS hw f i hf)
 have hor:=or_pow ha hi12
 have hpw:=pow_i hi12
 have Ha:=hide (pow_a ha)
 clear ha
 generalize hA:2 ^ i=A at hor hpw Ha hpre ⊢
 generalize a+A=a2 at hor Ha hpre ⊢
 generalize hf0':(S.cof f i).1=f0 at *
 generalize hf1':(S.cof f i).2=f1 at *
 go_enter Tryz.func154,Tryz.ntmps154
 go_wp2_with fail
 refine hsp.out.mono ?_
 rintro e W1 ⟨rfl,k1⟩
 have hS1:=hS.keeps k1 (by simp)
 have hS1d:=hS1.keeps (Keeps.drew [] W1) (by simp)
 have hz1:z≤W1.heap.size:=Nat.le_trans hz k1.size
 have h1:J pre W1.drew:=hJ.out _ _ _ h0 ((k1.trans (Keeps.drew [] W1)).still (by simp))
 have hpre1:Hid ((pre++S.tl k (i+1) f0 a) <+: L):=((List.prefix_append _ _).trans (by rw [List.append_assoc];exact hpre.out))
 have hc1:=hide (ih.out (i+1) f0 a (c - 1) pre W1.drew (by omega) n12 (by omega) Ha.out.1 ok0 (by push_cast;omega) hpre1.out hS1d hz1 h1)
 have hc01:=hS1.order.cell (ho i (by omega))
 have Hnx:=hide (fun (W2:World) (k2:GrT b τ (l :: T) W1.drew W2) (h2:J (pre++S.tl k (i+1) f0 a) W2)=>ih.out (i+1) f1 a2 (c - 1) (pre++S.tl k (i+1) f0 a) W2 (by omega) n12 (by omega) Ha.out.2 ok1 (by push_cast;omega) (by rw [List.append_assoc];exact hpre.out) (hS1d.grT k2 hT hB) (Nat.le_trans hz1 k2.size) h2)
 have hbo:B.bo∉l :: T:=hT _ (by simp [SB.own])
 have hcd:=hS1d.order.cell (ho i (by omega))
 have Hcell:=hide (fun (W2:World) (k2:GrT b τ (l :: T) W1.drew W2)=>(hS1d.order.of_heap (k2.block _ hS1d.order.lt hbo (fun q=>by have:=hB B.bo (by simp [SB.own]);omega))).cell (ho i (by omega)))
 clear hsp hpre ih
 have hsl:=run_tail B.bo i k c (by omega)
 go_wp2_with fail
 go_region_held3 (fun w'=>w'.cell? ⟨B.bo,i,none⟩=some (.int .i64 (i:Int))) (first | exact hcd | exact hc2 | exact hc3)
  (first
  | (go_at_call_of 154 (Value.int IntKind.i64 f0)
     refine hc1.out.mono ?_
     rintro e W2 ⟨rfl,h2,k2⟩
     have hc2:=Hcell.out _ k2)
  | (go_at_call_of 154 (Value.int IntKind.i64 f1)
     refine (Hnx.out _ k2 h2).mono ?_
     rintro e W3 ⟨rfl,h3,k3⟩
     have hc3:=Hcell.out _ (k2.trans k3)))
 all_goals
  go_wp2_with fail
  go_ret
  exact ⟨rfl,by rw [←List.append_assoc];exact h3,(((k1.trans (Keeps.drew [] W1)).grT (by simp)).trans k2).trans k3⟩
theorem tell_saysT {τ:TypeId} {b:Nat} {B:SB} {S:ST} (hw:WF S) (hid:Idn S) (ho:∀ i:Nat,i<S.n→S.order[i]?=some (i:Int)) {l:Nat} {J:List Nat→World→Prop} {T L:List Nat} {z:Nat} (hJ:∀ pre W1 W2,J pre W1→Still z W1 W2→J pre W2) (hT:∀ i∈B.own,i∉l :: T) (hB:∀ i∈B.own,i<b)
  (hY:∀ m pre x W1,J pre W1→(pre++[x]) <+: L→YieldAt Fence.wide m Tryz.prog l (eA x) W1 fun e W'=>e=.returned (.bool true)∧J (pre++[x]) W'∧GrT b τ (l :: T) W1 W'):∀ k,TellT τ b B S l J T L z k:=by
 intro k
 induction k with
 | zero=>
  intro i f a c pre W hn n12 hc ha hf hl hpre hS hz h0
  by_cases hf0:f=0
  ·subst hf0
   refine (tell_zero W _ _ _ _).mono ?_
   rintro e W' ⟨rfl,rfl⟩
   exact ⟨rfl,by simpa [ST.tl] using h0,GrT.refl _ _ _ _⟩
  ·simp only [ST.tl,hf0,if_false] at hpre ⊢
   refine callsIn_wide.1 (tell_end 0 W _ f (by simpa using hf0) a l c _ fun m=>?_)
   exact (hY m pre a W h0 hpre).mono fun e W' h=>⟨true,h.1,h⟩
 | succ k ih=>
  intro i f a c pre W hn n12 hc ha hf hl hpre hS hz h0
  by_cases hf0:f=0
  ·subst hf0
   refine (tell_zero W _ _ _ _).mono ?_
   rintro e W' ⟨rfl,rfl⟩
   exact ⟨rfl,by simpa [ST.tl] using h0,GrT.refl _ _ _ _⟩
  ·simp only [ST.tl,hf0,if_false] at hpre ⊢
   exact tell_stepT hw hid ho (hide hJ) hT hB (hide ih) i f a c pre W hn n12 hc ha hf (by simpa using hf0) hl hpre hS hz h0
theorem trues_iterT (τ:TypeId) (b:Nat) {w:World} {B:SB} {S:ST} (hS0:StoreAt w B S) (hB:∀ i∈B.own,i<b) (hw:WF S) (hid:Idn S) (ho:∀ i:Nat,i<S.n→S.order[i]?=some (i:Int)) (n12:S.n=12) (hco:12≤B.co) (ps pf pv:Nat) (f:Int) (k:Nat) (hps0:CellsAt w ps #[.pointer (some ⟨B.b,0,none⟩)]) (hpf0:CellsAt w pf #[.int .i64 f]) (hpv0:CellsAt w pv #[.int .i64 (k:Int)])
  (hf:S.ok f) (hh:Hk k S f) (hk:k≤9) (T:List Nat) (hT:∀ t∈T,t<w.heap.size∧t∉B.own) :
  IterT τ b 153 #[.pointer (some ⟨ps,0,none⟩),.pointer (some ⟨pf,0,none⟩),.pointer (some ⟨pv,0,none⟩)] eA (fun pre x _=>(pre++[x]) <+: S.trues f k) (fun xs=>xs=S.trues f k) T w:=by
 intro n l J W hl hlW hb hJ hY h0
 have hS:=hS0.of_heap (w':=W) (fun i hi=>hb.block i (hS0.lt i hi))
 have hps:=hps0.of_heap (w':=W) (hb.block ps hps0.lt)
 have hpf:=hpf0.of_heap (w':=W) (hb.block pf hpf0.lt)
 have hpv:=hpv0.of_heap (w':=W) (hb.block pv hpv0.lt)
 have q0:=hps.cell 0
 have q1:=hpf.cell 0
 have q2:=hpv.cell 0
 have q3:=hS.head.cell 0
 simp at q0 q1 q2 q3
 have e:=trues_tl hw hid hf hh (by omega:k≤S.n)
 have hsl:=run_head B.bo k B.co S.order.length (by omega) (by omega)
 have hlT:∀ i∈B.own,i∉l :: T:=fun i hi x=>by
  rcases List.mem_cons.1 x with e | x
  ·have:=hS0.lt i hi;omega
  ·exact (hT _ x).2 hi
 have hts:=hide (fun W1 (hk1:Keeps [] W W1)=>tell_saysT (τ:=τ) (b:=b) (B:=B) (S:=S) (l:=l) (J:=J) (T:=T) (L:=S.trues f k) (z:=W.heap.size) hw hid ho hJ hlT hB (fun m pre x W1 h1 h2=>yieldAt_wide (hY pre x W1 h1 h2)) k 0 f 0 B.co [] W1 (by omega) (by omega) (by omega) (by decide) hf (by have:=(lev_range hw hf).1;simpa using this) (by rw [e];simp) (hS.keeps hk1 (by simp)) hk1.size (hJ _ _ _ h0 (hk1.still (by simp))))
 have He:=hide e
 clear hY hJ e
 refine callsIn_wide.2 ?_
 simp only [List.append_toArray,List.cons_append,List.nil_append]
 go_enter Tryz.func153,Tryz.ntmps153
 go_wp2_with fail
 refine wp_quietV 9 (by kernel_rfl) (by kernel_rfl) ?_
 simp only [List.take_succ_cons,List.take_zero,List.drop_succ_cons,List.drop_zero]
 repeat (go_big_quiet_step (fail))
 refine wpQuiet_nil ?_
 go_wp2_with fail
 refine (hts.out _ (Keeps.drew [] W)).mono ?_
 rintro e W1 ⟨rfl,h1,k1⟩
 go_wp2_with fail
 go_end0
 exact ⟨⟨_,rfl⟩,_,He.out,h1,((Keeps.drew [] W).grT (by simp)).trans k1⟩
end
section
open Go.RowKit Go.Shelf
attribute [local go_sem] Oper.semAt_some
def TupC (cs:Array Value) (n:Nat) (f:Nat→Nat):Prop:=cs.size=n∧∀ p,p<n→cs[p]?=some (.int .i64 (f p:Int))
theorem TupC.set {cs:Array Value} {n:Nat} {f:Nat→Nat} (h:TupC cs n f) {k:Nat} (hk:k<n) (x:Nat):TupC (cs.setIfInBounds k (.int .i64 (x:Int))) n (fun p=>if p=k then x else f p):=by
 refine ⟨by rw [Array.size_setIfInBounds];exact h.1,fun p hp=>?_⟩
 rw [Array.getElem?_setIfInBounds]
 by_cases e:k=p
 ·subst e;rw [if_pos rfl,if_pos (by rw [h.1];exact hk)];simp
 ·have e2:¬ p=k:=fun q=>e q.symm
  rw [if_neg e,h.2 p hp];simp [e2]
theorem TupC.ext {cs:Array Value} {n:Nat} {f f':Nat→Nat} (h:TupC cs n f) (he:∀ p,p<n→f p=f' p):TupC cs n f':=⟨h.1,fun p hp=>by rw [h.2 p hp,he p hp]⟩
def partA (σ:Int→Bool) (k:Nat):Nat→Nat
 | 0=>0
 | i+1=>2 * partA σ k i+(σ (3 * k+i:Nat)).toNat
theorem partA_done (σ:Int→Bool) (k:Nat):partA σ k 3=numA σ k:=by simp only [partA,numA];simp;omega
theorem partA_lt (σ:Int→Bool) (k:Nat):∀ i,partA σ k i<2 ^ i
 | 0=>by simp [partA]
 | i+1=>by
  have:=partA_lt σ k i
  have hb:(σ (3 * k+i:Nat)).toNat<2:=by cases σ (3 * k+i:Nat) <;> decide
  simp only [partA];rw [Nat.pow_succ];omega
theorem or_bit {v b:Nat} (hv:v<4) (hb:b<2):bits BinOp.or IntKind.i64 (IntKind.i64.wrap ((v:Int) * 2)) (b:Int)=((2 * v+b:Nat):Int):=by
 have e1:IntKind.i64.wrap ((v:Int) * 2)=((2 * v:Nat):Int):=by rw [IntKind.wrap_i64];omega
 rw [e1]
 have e2:=(bits_nat .i64 62 (by decide) (fun n a b=>by rw [IntKind.wrap_i64];omega) (2 * v) b (by omega) (by omega)).2
 rw [e2]
 have h1:v=0∨v=1∨v=2∨v=3:=by omega
 have h2:b=0∨b=1:=by omega
 rcases h1 with rfl | rfl | rfl | rfl <;> rcases h2 with rfl | rfl <;> rfl
theorem and_bitY {y m:Nat} (hy:y<4096):bits BinOp.and IntKind.i64 ((y:Int) / 2 ^ m) 1=(((asg (y:Int)) (m:Nat)).toNat:Int):=by
 have h0:(y:Int) / 2 ^ m=((y / 2 ^ m:Nat):Int):=by push_cast;rfl
 have h1:y / 2 ^ m≤y:=Nat.div_le_self _ _
 have h2:(asg (y:Int)) (m:Nat)=decide (y / 2 ^ m % 2=1):=by
  unfold asg
  rw [bitN,Nat.testBit_eq_decide_div_mod_eq]
 rw [h0,h2]
 generalize y / 2 ^ m=q at *
 rw [and_one _ (by omega) (by omega)]
 by_cases hq:q % 2=1
 ·simp [hq];omega
 ·have:q % 2=0:=by omega
  simp [this];omega
def CellsT (w:World) (g:Nat) (cs:Array Value):Prop:=w.heap[g]?=some (.cells cs 3 (0,0))
theorem CellsT.at {w:World} {g:Nat} {cs:Array Value} (h:CellsT w g cs):CellsAt w g cs:=⟨3,h⟩
theorem CellsT.keeps {w w':World} {g:Nat} {cs:Array Value} {T:List Nat} (h:CellsT w g cs) (k:Keeps T w w') (hg:g∉T):CellsT w' g cs:=(k.block g (Array.getElem?_eq_some_iff.1 h).1 hg).trans h
theorem CellsT.set {w:World} {g:Nat} {cs:Array Value} (h:CellsT w g cs) (k:Nat) (v:Value):CellsT (w.setCell ⟨g,k,none⟩ v) g (cs.setIfInBounds k v):=by
 have hg:=(Array.getElem?_eq_some_iff.1 h).1
 unfold CellsT World.setCell at *
 simp [Array.getElem?_modify,h]
theorem tuple_calls {w:World} (y n:Nat) (hy:y<4096) (h1:1≤n) (h3:n≤3) :
  Calls Tryz.prog 81 #[.int .i64 (y:Int),.int .i64 (n:Int)] w fun e w'=>e=.returned (.slice (some ⟨w.heap.size,0,none⟩) n n)∧(∃ cs,CellsT w' w.heap.size cs∧TupC cs n (numA (asg (y:Int))))∧Keeps [] w w':=by
 have hmk:=run_makeE w n (by omega)
 have kM:=Keeps.alloc [] w (.cells (madeCells #[.int .i64 0] n) 3)
 have hM:CellsT (w.alloc (.cells (madeCells #[.int .i64 0] n) 3)) w.heap.size (madeCells #[.int .i64 0] n):=World.alloc_heap_new w _
 have hT0:TupC (madeCells #[.int .i64 0] n) n (fun _=>0):=⟨by rw [made_rep];simp,fun p hp=>by rw [made_intsE n p hp];rfl⟩
 go_enter Tryz.func81,Tryz.ntmps81
 go_wp2_with fail
 go_loopw [12] (fun x wr=>∃ (k:Nat) (cs:Array Value),x=.int .i64 k∧k≤n∧CellsT wr w.heap.size cs∧TupC cs n (fun p=>if p<k then numA (asg (y:Int)) p else 0)∧Keeps [] w wr) (fun x _=>((n:Int) - intOf x).toNat)
 case atStart=>exact ⟨0,_,rfl,by omega,hM,hT0.ext (fun p _=>by simp),kM⟩
 case round=>
  obtain ⟨k,cs,rfl,hk,hc,hT,hkw⟩:=hrel
  by_cases hkn:k<n
  ·have hkI:(k:Int)<n:=by omega
   rename World=>wo
   go_wp2_with fail
   go_loopw [15] (fun x wr=>∃ (i:Nat) (cs:Array Value),x=.int .i64 i∧i≤3∧CellsT wr w.heap.size cs∧TupC cs n (fun p=>if p<k then numA (asg (y:Int)) p else if p=k then partA (asg (y:Int)) k i else 0)∧Keeps [] w wr) (fun x _=>((3:Int) - intOf x).toNat)
   case atStart=>exact ⟨0,cs,rfl,by omega,hc,hT.ext (fun p _=>by simp [partA]),hkw⟩
   case round=>
    obtain ⟨i,cs',rfl,hi,hc',hT',hkw'⟩:=hrel
    by_cases hil:i<3
    ·have hiI:(i:Int)<3:=by omega
     have hvar:=hide (fun (W:World)=>variable_calls W k i (by omega) (by omega))
     have hpl:=partA_lt (asg (y:Int)) k i
     have hp2:2 ^ i≤2 ^ 2:=Nat.pow_le_pow_right (by decide) (by omega)
     have hor:=or_bit (v:=partA (asg (y:Int)) k i) (b:=((asg (y:Int)) (3 * k+i:Nat)).toNat) (by omega) (by cases (asg (y:Int)) (3 * k+i:Nat) <;> decide)
     have hand:=and_bitY (y:=y) (m:=3 * k+i) hy
     have hset:=hT'.set hkn (2 * partA (asg (y:Int)) k i+((asg (y:Int)) (3 * k+i:Nat)).toNat)
     have hcS:=hc'.set k (.int .i64 ((2 * partA (asg (y:Int)) k i+((asg (y:Int)) (3 * k+i:Nat)).toNat:Nat):Int))
     have q0:wr.cell? ⟨w.heap.size,k,none⟩=some (.int .i64 (partA (asg (y:Int)) k i:Int)):=by rw [hc'.at.cell,hT'.2 k hkn];simp
     have f0:=hc'.at.frozen k
     have hnext:partA (asg (y:Int)) k (i+1)=2 * partA (asg (y:Int)) k i+((asg (y:Int)) (3 * k+i:Nat)).toNat:=rfl
     have Hnext:=hide hnext
     have Hset:=hide hset
     have HcS:=hide hcS
     generalize hv:partA (asg (y:Int)) k i=v at *
     generalize hb:((asg (y:Int)) (3 * k+i:Nat)).toNat=b at *
     generalize hz:2 * v+b=z at *
     clear hset hcS hnext hz hb hv hT' hpl hp2
     have HF1:Hid (wr.drew.cell? ⟨w.heap.size,k,none⟩=some (.int .i64 (v:Int))):=hide q0
     have Hkw:=hide hkw'
     have hand2:bits BinOp.and IntKind.i64 ((y:Int) / 2 ^ (3 * (k:Int)+(i:Int)).toNat) 1=(b:Int):=by rw [show (3 * (k:Int)+(i:Int)).toNat=3 * k+i by omega];exact hand
     clear hand
     go_upto_region 8 with fail
     refine wp_region_Z 15 (fun w'=>w'.cell? ⟨w.heap.size,k,none⟩=some (.int .i64 (v:Int))) (by kernel_rfl) ?_
     refine wpAnyZ_takeL 0 (v:=?_) rfl (by kernel_rfl) (by kernel_rfl) (by kernel_rfl) (by kernel_rfl) (fun _ _ _ h=>h) (Or.inl ⟨by rfl,?_⟩) HF1.out ?_
     rotate_left
     ·(intro w' hSw;have s0:=hSw;go_simp;try with_reducible rfl)
     simp only [Act.put,List.setIfInBounds_toArray,List.set_cons_zero,List.set_cons_succ]
     refine wpAnyZ_takeL 1 (v:=?_) rfl (by kernel_rfl) (by kernel_rfl) (by kernel_rfl) (by kernel_rfl) (fun _ _ _ h=>h) (Or.inl ⟨by rfl,?_⟩) HF1.out ?_
     rotate_left
     ·(intro w' hSw;have s0:=hSw;go_simp;try with_reducible rfl)
     simp only [Act.put,List.setIfInBounds_toArray,List.set_cons_zero,List.set_cons_succ]
     refine wpAnyZ_takeL 2 (v:=?_) rfl (by kernel_rfl) (by kernel_rfl) (by kernel_rfl) (by kernel_rfl) (fun _ _ _ h=>h) (Or.inl ⟨by rfl,?_⟩) HF1.out ?_
     rotate_left
     ·(intro w' hSw;have s0:=hSw;go_simp;try with_reducible rfl)
     simp only [Act.put,List.setIfInBounds_toArray,List.set_cons_zero,List.set_cons_succ]
     refine wpAnyZ_takeL 3 (v:=?_) rfl (by kernel_rfl) (by kernel_rfl) (by kernel_rfl) (by kernel_rfl) (fun _ _ _ h=>h) (Or.inl ⟨by rfl,?_⟩) HF1.out ?_
     rotate_left
     ·(intro w' hSw;have s0:=hSw;go_simp;try with_reducible rfl)
     simp only [Act.put,List.setIfInBounds_toArray,List.set_cons_zero,List.set_cons_succ]
     refine wpAnyZ_takeL 4 (v:=?_) rfl (by kernel_rfl) (by kernel_rfl) (by kernel_rfl) (by kernel_rfl) (fun _ _ _ h=>h) (Or.inl ⟨by rfl,?_⟩) HF1.out ?_
     rotate_left
     ·(intro w' hSw;have s0:=hSw;go_simp;try with_reducible rfl)
     simp only [Act.put,List.setIfInBounds_toArray,List.set_cons_zero,List.set_cons_succ]
     refine wpAnyZ_takeL 5 (v:=?_) rfl (by kernel_rfl) (by kernel_rfl) (by kernel_rfl) (by kernel_rfl) (fun _ _ _ h=>h) (Or.inl ⟨by rfl,?_⟩) HF1.out ?_
     rotate_left
     ·(intro w' hSw;have s0:=hSw;go_simp;try with_reducible rfl)
     simp only [Act.put,List.setIfInBounds_toArray,List.set_cons_zero,List.set_cons_succ]
     refine wpAnyZ_takeL 6 (v:=?_) rfl (by kernel_rfl) (by kernel_rfl) (by kernel_rfl) (by kernel_rfl) (fun _ _ _ h=>h) (Or.inl ⟨by rfl,?_⟩) HF1.out ?_
     rotate_left
     ·(intro w' hSw;have s0:=hSw;go_simp;try with_reducible rfl)
     simp only [Act.put,List.setIfInBounds_toArray,List.set_cons_zero,List.set_cons_succ]
     refine wpAnyZ_takeL 7 (v:=?_) rfl (by kernel_rfl) (by kernel_rfl) (by kernel_rfl) (by kernel_rfl) (fun _ _ _ h=>h) (Or.inl ⟨by rfl,?_⟩) HF1.out ?_
     rotate_left
     ·(intro w' hSw;have s0:=hSw;go_simp;try with_reducible rfl)
     simp only [Act.put,List.setIfInBounds_toArray,List.set_cons_zero,List.set_cons_succ]
     refine wpAnyZ_takeL 8 (v:=?_) rfl (by kernel_rfl) (by kernel_rfl) (by kernel_rfl) (by kernel_rfl) (fun _ _ _ h=>h) (Or.inl ⟨by rfl,?_⟩) HF1.out ?_
     rotate_left
     ·(intro w' hSw;have s0:=hSw;go_simp;try with_reducible rfl)
     simp only [Act.put,List.setIfInBounds_toArray,List.set_cons_zero,List.set_cons_succ]
     refine wpAnyZ_takeL 9 (v:=?_) rfl (by kernel_rfl) (by kernel_rfl) (by kernel_rfl) (by kernel_rfl) (fun _ _ _ h=>h) (Or.inl ⟨by rfl,?_⟩) HF1.out ?_
     rotate_left
     ·(intro w' hSw;have s0:=hSw;go_simp;try with_reducible rfl)
     simp only [Act.put,List.setIfInBounds_toArray,List.set_cons_zero,List.set_cons_succ]
     refine wpAnyZ_oneL 10 (by kernel_rfl) rfl ?_
     intro K hK
     have HK:=hide hK
     clear hK
     refine step_callA rfl 144 _ _ rfl _ Tryz.func144 (by kernel_rfl) (by kernel_rfl) [.int .i64 (k:Int),.int .i64 (i:Int)] rfl ?_
     refine (hvar.out _).mono ?_
     rintro e W5 ⟨rfl,rfl⟩
     refine HK.out _ _ (fun _=>HF1.out) ?_
     clear HK
     try simp only [Act.put,List.setIfInBounds_toArray,List.set_cons_zero,List.set_cons_succ]
     refine wpAnyZ_oneL 11 (by kernel_rfl) rfl ?_
     intro K hK
     have HK:=hide hK
     clear hK
     rw [if_pos (by rfl)]
     go_simp
     refine HK.out _ _ (fun _=>HF1.out) ?_
     clear HK
     try simp only [Act.put,List.setIfInBounds_toArray,List.set_cons_zero,List.set_cons_succ]
     refine wpAnyZ_oneL 12 (by kernel_rfl) rfl ?_
     intro K hK
     have HK:=hide hK
     clear hK
     rw [if_pos (by rfl)]
     go_simp
     refine HK.out _ _ (fun _=>HF1.out) ?_
     clear HK
     try simp only [Act.put,List.setIfInBounds_toArray,List.set_cons_zero,List.set_cons_succ]
     refine wpAnyZ_oneL 13 (by kernel_rfl) rfl ?_
     intro K hK
     have HK:=hide hK
     clear hK
     rw [if_pos (by rfl)]
     go_simp
     refine HK.out _ _ (fun _=>HF1.out) ?_
     clear HK
     try simp only [Act.put,List.setIfInBounds_toArray,List.set_cons_zero,List.set_cons_succ]
     refine wpAnyZ_oneL 14 (by kernel_rfl) rfl ?_
     intro K hK
     have HK:=hide hK
     clear hK
     rw [if_pos (by rfl)]
     go_simp
     refine HK.out _ _ (fun _=>HF1.out) ?_
     clear HK
     try simp only [Act.put,List.setIfInBounds_toArray,List.set_cons_zero,List.set_cons_succ]
     refine wpAnyZ_oneL 15 (by kernel_rfl) rfl ?_
     intro K hK
     have HK:=hide hK
     clear hK
     rw [if_pos (by rfl)]
     go_simp
     refine HK.out _ _ (fun h=>absurd rfl h) ?_
     clear HK
     refine wpAnyZ_done (by kernel_rfl) ?_
     go_wp2_with fail
     go_roundw
     ·exact ⟨i+1,_,by simp,by omega,HcS.out.keeps (Keeps.drew [] _) (by simp),Hset.out.ext (fun p _=>by
       by_cases e:p=k
       ·subst e;rw [if_pos rfl,if_neg (Nat.lt_irrefl _),if_pos rfl,Hnext.out]
       ·rw [if_neg e,if_neg e,if_neg e]),(Hkw.out.trans_new (Keeps.setCell _ _ _) (fun j hj=>.inr (by simp only [List.mem_singleton] at hj;omega))).trans (Keeps.drew [] _)⟩
     ·simp only [intOf];omega
    ·have hiI:¬ (i:Int)<3:=by omega
     have e:i=3:=by omega
     subst e
     go_wp2_with fail
     go_roundw
     ·exact ⟨k+1,cs',by simp,by omega,hc',hT'.ext (fun p hp=>by
       by_cases e:p<k
       ·rw [if_pos e,if_pos (by omega)]
       ·rw [if_neg e]
        by_cases e2:p=k
        ·subst e2;rw [if_pos rfl,if_pos (by omega),partA_done]
        ·rw [if_neg e2,if_neg (by omega)]),hkw'⟩
     ·simp only [intOf];omega
  ·have hkI:¬ (k:Int)<n:=by omega
   have e:k=n:=by omega
   subst e
   go_wp2_with fail
   go_ret
   exact ⟨rfl,⟨cs,hc,hT.ext (fun p hp=>by rw [if_pos hp])⟩,hkw⟩
end
end Go.Proofs.YtgjomknpjigkhaaGreatDoor
