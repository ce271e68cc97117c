import Derived.Test.YtgjomknpjigkhaaGreatDoorS09
namespace Go.Proofs.YtgjomknpjigkhaaGreatDoor
set_option maxRecDepth 100000
set_option maxHeartbeats 4000000
section
open Go.RowKit Go.Shelf
structure SwInv (S:ST) (roots:List Int) (N':List (Int×Tri)) (U':List (Tri×Int)) (left:List Int):Prop where
 node:∀ f t,get N' f=some t↔get S.N f=some t∧(Reach S roots f∨f∈left)
 number:∀ t f,get U' t=some f↔get S.U t=some f∧(Reach S roots f∨f∈left)
theorem SwInv.start {S:ST} (hw:WF S) (roots:List Int):SwInv S roots S.N S.U (S.N.map Prod.fst):=
 ⟨fun _ _=>⟨fun h=>⟨h,.inr (List.mem_map.2 ⟨_,get_some_mem h,rfl⟩)⟩,fun h=>h.1⟩,fun t f=>⟨fun h=>⟨h,.inr (List.mem_map.2 ⟨_,get_some_mem ((hw.inv t f).1 h),rfl⟩)⟩,fun h=>h.1⟩⟩
theorem SwInv.stays {S:ST} {roots:List Int} {N':List (Int×Tri)} {U':List (Tri×Int)} {left:List Int} (h:SwInv S roots N' U' left) {f:Int} (hf:Reach S roots f):SwInv S roots N' U' (left.filter (fun b=>decide (b≠f))):=by
 have key:∀ g,(Reach S roots g∨g∈left)↔(Reach S roots g∨g∈left.filter (fun b=>decide (b≠f))):=by
  intro g
  by_cases e:g=f
  ·subst e;exact ⟨fun _=>.inl hf,fun _=>.inl hf⟩
  ·simp [List.mem_filter,e]
 exact ⟨fun g t=>by rw [h.node,key],fun t g=>by rw [h.number,key]⟩
theorem SwInv.goes {S:ST} (hw:WF S) {roots:List Int} {N':List (Int×Tri)} {U':List (Tri×Int)} {left:List Int} (h:SwInv S roots N' U' left) {f:Int} {t:Tri} (hf:¬ Reach S roots f) (ht:get S.N f=some t):SwInv S roots (del N' f) (del U' t) (left.filter (fun b=>decide (b≠f))):=by
 have key:∀ g,g≠f→((Reach S roots g∨g∈left)↔(Reach S roots g∨g∈left.filter (fun b=>decide (b≠f)))):=by
  intro g e
  simp [List.mem_filter,e]
 have no:¬ (Reach S roots f∨f∈left.filter (fun b=>decide (b≠f))):=by simp [List.mem_filter,hf]
 refine ⟨fun g u=>?_,fun u g=>?_⟩
 ·rw [get_del]
  by_cases e:g=f
  ·subst e
   simp only [if_true]
   exact ⟨fun x=>(nomatch x),fun x=>absurd x.2 no⟩
  ·rw [if_neg e,h.node,key g e]
 ·rw [get_del]
  by_cases e:u=t
  ·subst e
   simp only [if_true]
   refine ⟨fun x=>(nomatch x),fun x=>?_⟩
   have h1:=(hw.inv _ _).2 ht
   rw [h1] at x
   have:=Option.some.inj x.1
   subst this
   exact absurd x.2 no
  ·rw [if_neg e,h.number]
   constructor
   ·rintro ⟨h1,h2⟩
    have hne:g≠f:=fun e2=>by
     subst e2
     have:=(hw.inv _ _).1 h1
     rw [ht] at this
     exact e (Option.some.inj this).symm
    exact ⟨h1,(key g hne).1 h2⟩
   ·rintro ⟨h1,h2⟩
    have hne:g≠f:=fun e2=>by
     subst e2
     exact no h2
    exact ⟨h1,(key g hne).2 h2⟩
def leftCount (w:World) (it:Nat):Nat:=match w.heap[it]? with
 | some (.mapIter (some rm) _ seen _)=>(match w.heap[rm]? with
  | some (.map es _)=>(leftOf es seen).size
  | _=>0)
 | _=>0
theorem leftCount_is {α β:Type} {ek:α→Value} {ev:β→Value} {w:World} {rm it:Nat} {L:List (α×β)} {left:List α} (h:MapRange ek ev w rm it L left):leftCount w it=left.length:=by
 obtain ⟨es,clock,since,seen,c0,h1,h2,h3,h4,h5,h6,h7,h8,hsc,h9⟩:=h
 have:=congrArg List.length h9
 simp only [List.length_map,Array.length_toList] at this
 simp [leftCount,h6,h1,this]
theorem eI_inj (a b:Int) (h:eI a=eI b):a=b:=by cases h;rfl
def NoP (Q:Exit→Act→World→Prop):Exit→Act→World→Prop
 | .panic _,_,_=>False
 | e,a,w=>Q e a w
theorem NoP.normal {Q:Exit→Act→World→Prop} {a:Act} {w:World} (h:Q .normal a w):NoP Q .normal a w:=h
theorem NoP.out {Q:Exit→Act→World→Prop}:∀ (e:Exit) (a:Act) (w:World),NoP Q e a w→Q e a w:=fun e a w h=>by
 cases e with
 | panic c=>exact (h:False).elim
 | normal=>exact h
 | exit id=>exact h
 | goto l=>exact h
 | ret=>exact h
 | outgrown=>exact h
def ST.swp (S:ST) (N':List (Int×Tri)) (U':List (Tri×Int)):ST:={ S with N:=N',U:=U',K:=[] }
attribute [local go_sem] Oper.semAt_some
theorem sweep_in (n:Nat) {w:World} {B:SB} {S:ST} (hS:StoreAt w B S) (hw:WF S) (g0 c0:Nat) (roots:List Int) (hrow:RowIs w g0 roots) (hg0:g0∉B.own) (hr:RootsOk S roots) (hlen:roots.length≤1000) (hN:∀ xs ws,NInv (S.withK []) roots ws xs→xs.length≤100000000) :
  CallsIn Fence.wide n Tryz.prog 221 #[.pointer (some ⟨B.b,0,none⟩),.slice (some ⟨g0,0,none⟩) roots.length c0] w fun e w'=>e=.returned (.tuple #[])∧∃ S',StoreAt w' B S'∧Swept S S' roots∧Keeps B.own w w':=by
 obtain ⟨o,hrun,hm⟩:=run_clear (P:=Tryz.prog) Tryz.underlying211 hS.known 0
 have hrun':=fun (ty:TypeId)=>(show (Builtin.clear_ #[211] ty #[.map (some B.rk)]).run Tryz.prog w=_ from hrun)
 clear hrun
 have hSc:StoreAt (blk w B.rk o) B (S.withK []):=hS.knownBlk hm
 have kc:Keeps B.own w (blk w B.rk o):=(Keeps.blk w B.rk o).mono (by simp [SB.own])
 have hrowc:=hrow.kept kc hg0
 have hszc:(blk w B.rk o).heap.size=w.heap.size:=by simp [blk]
 have c5:=hS.head.cell 5
 simp at c5
 have hmm:=@run_makeMap Tryz.prog
 refine callsIn_of_wp_marks Tryz.func221 rfl trivial ?_ rfl
 simp only [Tryz.ntmps221,List.size_toArray,List.length_cons,List.length_nil,Nat.reduceAdd,Nat.reduceSub,Array.replicate_succ,Array.replicate_zero,List.push_toArray,List.append_toArray,List.nil_append,List.cons_append]
 gi_wp2_with fail
 refine ⟨trivial,fun h=>(nomatch h),?_⟩
 refine (callsIn_wide.2 (nodes_calls _ _ _ _ _)).mono ?_
 rintro e W ⟨rfl,rfl⟩
 gi_wp2_with fail
 generalize hWc:blk w B.rk o=Wc at hm hSc kc hrowc hszc hrun' ⊢
 clear hWc hrun' hm c5
 rw [←hszc]
 have Hszc:=hide hszc
 clear hszc
 have z1:=size_alloc' Wc (.map #[] 0)
 have z2:=size_alloc' (Wc.alloc (.map #[] 0)) (.cells #[.map (some Wc.heap.size)] 338)
 have z3:=size_alloc' ((Wc.alloc (.map #[] 0)).alloc (.cells #[.map (some Wc.heap.size)] 338)) (.cells #[.pointer (some ⟨B.b,0,none⟩)] 135)
 have z4:=size_alloc' (((Wc.alloc (.map #[] 0)).alloc (.cells #[.map (some Wc.heap.size)] 338)).alloc (.cells #[.pointer (some ⟨B.b,0,none⟩)] 135)) (.cells #[.slice (some ⟨g0,0,none⟩) roots.length c0] 40)
 have a1:MapIs eI eU (Wc.alloc (.map #[] 0)) Wc.heap.size ([]:List (Int×Unit)):=MapIs.new Wc 0
 have a2:=CellsAt.new (Wc.alloc (.map #[] 0)) #[.map (some Wc.heap.size)] 338
 have a3:=CellsAt.new ((Wc.alloc (.map #[] 0)).alloc (.cells #[.map (some Wc.heap.size)] 338)) #[.pointer (some ⟨B.b,0,none⟩)] 135
 have a4:=CellsAt.new (((Wc.alloc (.map #[] 0)).alloc (.cells #[.map (some Wc.heap.size)] 338)).alloc (.cells #[.pointer (some ⟨B.b,0,none⟩)] 135)) #[.slice (some ⟨g0,0,none⟩) roots.length c0] 40
 have k1:=Keeps.alloc [] Wc (.map #[] 0)
 have k2:=Keeps.alloc [] (Wc.alloc (.map #[] 0)) (.cells #[.map (some Wc.heap.size)] 338)
 have k3:=Keeps.alloc [] ((Wc.alloc (.map #[] 0)).alloc (.cells #[.map (some Wc.heap.size)] 338)) (.cells #[.pointer (some ⟨B.b,0,none⟩)] 135)
 have k4:=Keeps.alloc [] (((Wc.alloc (.map #[] 0)).alloc (.cells #[.map (some Wc.heap.size)] 338)).alloc (.cells #[.pointer (some ⟨B.b,0,none⟩)] 135)) (.cells #[.slice (some ⟨g0,0,none⟩) roots.length c0] 40)
 rw [z1] at z2 a2
 rw [z2] at z3 a3
 rw [z3] at z4 a4
 have b1:=((a1.kept k2 (by simp)).kept k3 (by simp)).kept k4 (by simp)
 have b2:=(a2.keeps k3 (by simp)).keeps k4 (by simp)
 have b3:=a3.keeps k4 (by simp)
 have kk:=((k1.trans k2).trans k3).trans k4
 have hS4:=hSc.keeps kk (by simp)
 have hrow4:=hrowc.kept kk (by simp)
 clear k1 k2 k3 k4 a1 a2 a3 z1 z2 z3
 generalize (((Wc.alloc (.map #[] 0)).alloc (.cells #[.map (some Wc.heap.size)] 338)).alloc (.cells #[.pointer (some ⟨B.b,0,none⟩)] 135)).alloc (.cells #[.slice (some ⟨g0,0,none⟩) roots.length c0] 40)=W0 at z4 a4 b1 b2 b3 kk hS4 hrow4 ⊢
 have hlow:∀ i∈B.own,i<Wc.heap.size:=hSc.lt
 have hit:=nodes_iter (S:=S.withK []) hS4 (withK_wf hw []) (Wc.heap.size+1+1+1) (Wc.heap.size+1+1) g0 c0 roots a4 b3 hrow4 hr hlen hN [Wc.heap.size] (by
  intro t ht
  simp only [List.mem_singleton] at ht
  subst ht
  exact ⟨by omega,hSc.fresh' (Nat.le_refl _),by omega⟩)
 refine range_law (gf:=280) (lb:=#[.pointer (some ⟨Wc.heap.size+1+1+1,0,none⟩),.pointer (some ⟨Wc.heap.size+1+1,0,none⟩)]) rfl (enters_of Tryz.func280 (by kernel_rfl) rfl) (T:=[Wc.heap.size]) (by simp;omega) hit (fun _=>rfl)
  (fun pre W=>CellsAt W (Wc.heap.size+1) #[.map (some Wc.heap.size)]∧∃ L,MapIs eI eU W Wc.heap.size L∧∀ f,(get L f).isSome=true↔f∈pre.map Prod.fst)
  (fun pre W1 W2 ⟨h,L,h2,h3⟩ hb=>⟨h.of_heap (hb.block _ (by omega)),L,h2.of_heap (hb.block _ (by omega)),h3⟩) ⟨b2,[],b1,fun f=>by simp [get_nil]⟩
  (fun x a' W=>a' = { tmps:=#[.pointer (some ⟨B.b,0,none⟩),.slice (some ⟨g0,0,none⟩) roots.length c0,undef,undef,.pointer (some ⟨Wc.heap.size+1,0,none⟩),.int .i64 x.1,undef,undef,undef,undef,.pointer (some ⟨B.b,0,none⟩),.pointer (some ⟨B.b,0,none⟩),.pointer (some ⟨B.b,5,none⟩),.map (some B.rk),.map (some Wc.heap.size),.pointer (some ⟨B.b,0,none⟩),.slice (some ⟨g0,0,none⟩) roots.length c0,.func (.func 280) #[] #[.pointer (some ⟨Wc.heap.size+1+1+1,0,none⟩),.pointer (some ⟨Wc.heap.size+1+1,0,none⟩)],.int .i64 x.1,.agg #[.int .i64 x.2.1,.int .i64 x.2.2.1,.int .i64 x.2.2.2],undef,undef,undef,undef,undef,undef,undef,undef,undef,undef,undef,undef,undef,undef,undef,undef,undef,undef,undef,undef,undef,undef,undef,undef,undef,undef,undef,undef,undef,undef,undef],defers:=[] })
  (fun x a' W1 W2 h _=>h) ?assign ?body ?done
 case assign=>
  intro l pre x W K hlt hi hc hK
  simp only [eN,List.zip_toArray,List.zip_cons_cons,List.zip_nil_right,List.foldl_toArray',List.size_toArray,List.length_cons,List.length_nil,List.foldl_cons,List.foldl_nil,List.setIfInBounds_toArray,List.set_cons_succ,List.set_cons_zero]
  gi_wp2
  exact hK _ _ rfl (Keeps.refl _ _)
 case body=>
  rintro l pre x a' W hlt ⟨hi,L,hL,hLi⟩ hc rfl
  have c0':=hi.cell 0
  simp at c0'
  obtain ⟨o2,hrun2,hm2⟩:=run_upd (P:=Tryz.prog) Tryz.underlying338 key3 hL x.1 ()
  simp only [eI,eU] at hrun2
  have k5:=Keeps.blk W Wc.heap.size o2
  have hi2:=hi.keeps k5 (by simp)
  gi_wp2
  refine ⟨⟨hi2,_,hm2,fun f=>?_⟩,k5⟩
  rw [get_put]
  by_cases e:f=x.1
  ·subst e;simp
  ·rw [if_neg e,hLi]
   simp [e]
 case done=>
  rintro xs W hG ⟨hi,L,hL,hLi⟩ hk hlt hD
  have hSW:=hS4.keeps hk (fun i hi x=>by simp only [List.mem_singleton] at x;have:=hlow i hi;omega)
  have kW:Keeps [] Wc W:=kk.trans_new hk (by intro i hi;simp only [List.mem_singleton] at hi;exact .inr (by omega))
  have hneed:∀ f,(get L f).isSome=true↔Reach S roots f:=fun f=>by rw [hLi];exact hG.iff f
  obtain ⟨o3,hrun3,hmr⟩:=run_maprange (P:=Tryz.prog) (K:=3) (E:=228) Tryz.underlying209 hSW.nodes
  have c2:=hSW.head.cell 2
  simp at c2
  have kR:=Keeps.alloc [] W o3
  have hD3:=(kR.block _ (Array.getElem?_eq_some_iff.1 hD).1 (by simp)).trans hD
  have hi3:=hi.keeps kR (by simp)
  have hL3:=hL.kept kR (by simp)
  have hS3:=hSW.keeps kR (by simp)
  have kW3:=kW.trans kR
  have HD3:=hide hD3
  have Hrun3:=hrun3
  clear hLi hG hD hit b1 b2 b3 a4 hrow4 hrowc
  gi_wp2_with fail
  have kwW3:Keeps B.own w (W.alloc o3):=kc.trans (kW3.mono (by simp))
  have hWs:Wc.heap.size+1+1+1+1≤W.heap.size:=by have:=hk.size;omega
  have hitown:W.heap.size∉B.own:=fun x=>by have:=hlow _ x;omega
  have hmr':MapRange eI eT (W.alloc o3) B.rn W.heap.size S.N (S.N.map Prod.fst):=hmr
  clear hrun3 Hrun3 hmr c2 kW3 kW kR hSW hi hL hk
  gi_loopw [6] (fun _ wr=>∃ (N':List (Int×Tri)) (U':List (Tri×Int)) (left:List Int),MapRange eI eT wr B.rn W.heap.size N' left∧StoreAt wr B (S.swp N' U')∧SwInv S roots N' U' left∧CellsAt wr (Wc.heap.size+1) #[.map (some Wc.heap.size)]∧MapIs eI eU wr Wc.heap.size L∧Hid (wr.heap[W0.heap.size]?=some (.deferred (some [])))∧Keeps B.own w wr)
   (fun _ wr=>leftCount wr W.heap.size)
  case atStart=>exact ⟨S.N,S.U,S.N.map Prod.fst,hmr',hS3,SwInv.start hw roots,hi3,hL3,HD3,kwW3⟩
  case round=>
   obtain ⟨N',U',left,hmr,hSr,hinv,hbox,hneedm,HD,hkr⟩:=hrel
   clear hmr' hS3 hi3 hL3 HD3 kwW3
   have hcnt:=leftCount_is hmr
   have Hcnt:=hide hcnt
   clear hcnt
   rcases hmr.next (P:=Tryz.prog) eI_inj 0 with ⟨hl,hrun⟩ | ⟨f,t,W1,hf,ht,hrun,hen,hmr1,k1,hs1⟩
   ·have hrun':=fun (ty:TypeId)=>(show (Instr.next (.pointer (some ⟨W.heap.size,0,none⟩)) false ty).run Tryz.prog wr=_ from hrun)
    clear hrun
    gi_wp2_with fail
    refine ⟨by simp,.inl ⟨_,_,rfl,run_takeDeferred HD.out,?_⟩⟩
    refine ⟨_,results_none rfl _ _ _,rfl,S.swp N' U',?_,?_,?_⟩
    ·exact hSr.keeps (Keeps.putObj wr W0.heap.size _) (fun i hi x=>by simp only [List.mem_singleton] at x;have:=hlow i hi;omega)
    ·subst hl
     exact ⟨rfl,rfl,rfl,rfl,fun f t=>by rw [show (S.swp N' U').N=N' from rfl,hinv.node];simp,fun t f=>by rw [show (S.swp N' U').U=U' from rfl,hinv.number];simp⟩
    ·refine hkr.trans_new (Keeps.putObj wr W0.heap.size _) (fun i hi=>?_)
     simp only [List.mem_singleton] at hi
     have:=Hszc.out
     exact .inr (by omega)
   ·have hrun':=fun (ty:TypeId)=>(show (Instr.next (.pointer (some ⟨W.heap.size,0,none⟩)) false ty).run Tryz.prog wr=_ from hrun)
    obtain ⟨v,lo,hi⟩:=t
    simp only [eI,eT] at hrun' hen
    clear hrun
    have htS:=((hinv.node _ _).1 ht).1
    have hits:∀ i∈B.own,i∉[W.heap.size]:=fun i hi x=>by simp only [List.mem_singleton] at x;exact hitown (x ▸ hi)
    have hS1:=hSr.keeps k1 hits
    have hbox1:=hbox.keeps k1 (by simp;omega)
    have hneed1:=hneedm.kept k1 (by simp;omega)
    have kA:=Keeps.alloc [] W1 (.cells #[.int .i64 v,.int .i64 lo,.int .i64 hi] 228)
    have hNA:=CellsAt.new W1 #[.int .i64 v,.int .i64 lo,.int .i64 hi] 228
    have hbA:=hbox1.keeps kA (by simp)
    have hnA:=hneed1.kept kA (by simp)
    have cb:=hbA.cell 0
    simp at cb
    have hlk:=run_look (P:=Tryz.prog) Tryz.underlying338 key3 (z:=.agg #[]) zero339 hnA f true
    have kB:=Keeps.alloc [] (W1.alloc (.cells #[.int .i64 v,.int .i64 lo,.int .i64 hi] 228)) (.cells #[] 339)
    have kAB:=kA.trans kB
    have hmrB:=hmr1.of_heap (w':=(W1.alloc (.cells #[.int .i64 v,.int .i64 lo,.int .i64 hi] 228)).alloc (.cells #[] 339)) (kAB.block _ hmr1.is.lt (by simp)) (kAB.block _ hmr1.it_lt (by simp))
    have hSB:=hS1.keeps kAB (by simp)
    have hbB:=hbox1.keeps kAB (by simp)
    have hnB:=hneed1.kept kAB (by simp)
    have hNB:=hNA.keeps kB (by simp)
    have hszI:W0.heap.size<wr.heap.size:=(Array.getElem?_eq_some_iff.1 HD.out).1
    have hDB:Hid ((((W1.alloc (.cells #[.int .i64 v,.int .i64 lo,.int .i64 hi] 228)).alloc (.cells #[] 339)).heap)[W0.heap.size]?=some (.deferred (some []))):=by
     refine (kAB.block _ ?_ (by simp)).trans ((k1.block _ hszI ?_).trans HD.out)
     ·have:=k1.size;omega
     ·simp only [List.mem_singleton];intro e;have hx:=HD.out;rw [e] at hx;obtain ⟨_,_,_,_,_,_,_,_,_,_,h6,_⟩:=hmr;rw [h6] at hx;cases hx
    have hkB:Keeps B.own w ((W1.alloc (.cells #[.int .i64 v,.int .i64 lo,.int .i64 hi] 228)).alloc (.cells #[] 339)):=(hkr.trans_new (k1.trans (kAB.mono (by simp))) (fun i hi=>by simp only [List.mem_singleton] at hi;have:=Hszc.out;exact .inr (by omega)))
    have hfl:f∉left.filter (fun b=>decide (b≠f)):=by simp [List.mem_filter]
    have hless:(left.filter (fun b=>decide (b≠f))).length<left.length:=by
     have h1:=List.length_filter_lt_length_iff_exists (l:=left) (p:=fun b=>decide (b≠f))
     exact h1.2 ⟨f,hf,by simp⟩
    by_cases hrf:Reach S roots f
    ·have hsome:=(hneed f).2 hrf
     obtain ⟨u,hu⟩:=Option.isSome_iff_exists.1 hsome
     simp only [hu,Option.map_some,Option.getD_some,eI,eU,Option.isSome_some,if_true] at hlk
     have hcB:=leftCount_is hmrB
     have HcB:=hide hcB
     clear hcB hsome hu
     gi_wp2_with fail
     refine ⟨⟨N',U',_,hmrB,hSB,hinv.stays hrf,hbB,hnB,hDB,hkB⟩,?_⟩
     rw [Hcnt.out,HcB.out]
     exact hless
    ·have hnone:get L f=none:=by
      cases hg:get L f with
      | none=>rfl
      | some u=>exact absurd ((hneed f).1 (by rw [hg];rfl)) hrf
     simp only [hnone,Option.map_none,Option.getD_none,eI,Option.isSome_none,if_true] at hlk
     obtain ⟨o4,hrun4,hmr4⟩:=hmrB.del (P:=Tryz.prog) (T:=209) (E:=228) Tryz.underlying209 key3 eI_inj f hfl 0
     have hrun4':=fun (ty:TypeId)=>(show (Builtin.delete_ #[209,3] ty #[.map (some B.rn),.int .i64 f]).run Tryz.prog ((W1.alloc (.cells #[.int .i64 v,.int .i64 lo,.int .i64 hi] 228)).alloc (.cells #[] 339))=_ from hrun4)
     clear hrun4 hnone
     have hS4':=hSB.nodesBlk hmr4.is
     have cn:=hSB.head.cell 2
     simp at cn
     have k4:Keeps [B.rn] ((W1.alloc (.cells #[.int .i64 v,.int .i64 lo,.int .i64 hi] 228)).alloc (.cells #[] 339)) (blk ((W1.alloc (.cells #[.int .i64 v,.int .i64 lo,.int .i64 hi] 228)).alloc (.cells #[] 339)) B.rn o4):=Keeps.blk _ _ _
     have hrnl:B.rn<Wc.heap.size:=hlow _ (by simp [SB.own])
     have hN4:=hNB.keeps k4 (by simp;have:=k1.size;omega)
     have hb4:=hbB.keeps k4 (by simp;omega)
     have hn4:=hnB.kept k4 (by simp;omega)
     have hD4:Hid ((blk ((W1.alloc (.cells #[.int .i64 v,.int .i64 lo,.int .i64 hi] 228)).alloc (.cells #[] 339)) B.rn o4).heap[W0.heap.size]?=some (.deferred (some []))):=(k4.block _ (Array.getElem?_eq_some_iff.1 hDB.out).1 (by simp;omega)).trans hDB.out
     have hk4:=hkB.trans (k4.mono (by simp [SB.own]))
     have hfol:Tryz.prog.follows .mixedOrders=true:=by kernel_rfl
     gi_wp2_with fail
     clear hrun4' hlk cn hen hrun' cb
     generalize blk ((W1.alloc (.cells #[.int .i64 v,.int .i64 lo,.int .i64 hi] 228)).alloc (.cells #[] 339)) B.rn o4=W4 at hmr4 hS4' hN4 hb4 hn4 hD4 hk4 ⊢
     rw [hs1] at hN4
     have hS5:=hS4'.drew
     have c3:=hS4'.head.cell 3
     have n0:=hN4.cell 0
     have n1:=hN4.cell 1
     have n2:=hN4.cell 2
     simp at c3 n0 n1 n2
     obtain ⟨o5,hrun5,hm5⟩:=run_del (P:=Tryz.prog) Tryz.underlying210 key228 hS5.numbers (v,lo,hi) 0
     have hrun5':=fun (ty:TypeId)=>(show (Builtin.delete_ #[210,228] ty #[.map (some B.ru),.agg #[.int .i64 v,.int .i64 lo,.int .i64 hi]]).run Tryz.prog W4.drew=_ from hrun5)
     clear hrun5
     have hne:=SB.own_ne hS.apart
     have k5:Keeps [B.ru] W4.drew (blk W4.drew B.ru o5):=Keeps.blk _ _ _
     have k45:Keeps [B.ru] W4 (blk W4.drew B.ru o5):=(Keeps.drew _ _).trans k5
     have hrul:B.ru<Wc.heap.size:=hlow _ (by simp [SB.own])
     have hmr5:=hmr4.of_heap (w':=blk W4.drew B.ru o5) (k45.block _ hmr4.is.lt (by simp;exact hne.2.2.2.2.2.2.2.2.2.2.2.2.1)) (k45.block _ hmr4.it_lt (by simp;omega))
     have hS6:StoreAt (blk W4.drew B.ru o5) B (S.swp (del N' f) (del U' (v,lo,hi))):=hS5.numbersBlk hm5
     have hb5:=hb4.keeps k45 (by simp;omega)
     have hn5:=hn4.kept k45 (by simp;omega)
     have hD5:Hid ((blk W4.drew B.ru o5).heap[W0.heap.size]?=some (.deferred (some []))):=(k45.block _ (Array.getElem?_eq_some_iff.1 hD4.out).1 (by simp;omega)).trans hD4.out
     have hk5:=hk4.trans (k45.mono (by simp [SB.own]))
     have hc5:=leftCount_is hmr5
     have Hc5:=hide hc5
     clear hc5
     refine wpIn_mono (Q:=NoP _) ?_ NoP.out
     gi_region_with_o (fail)
     all_goals
      refine NoP.normal ?_
      gi_wp2_with fail
      refine ⟨⟨del N' f,del U' (v,lo,hi),_,hmr5,hS6,hinv.goes hw hrf htS,?_⟩,?_⟩
      ·have h5:=hD5.out
       rw [z4] at h5
       exact h5
      ·rw [Hcnt.out,Hc5.out]
       exact hless
theorem sweep_callsE {w:World} {B:SB} {S:ST} (hS:StoreAt w B S) (hw:WF S) (g0 c0:Nat) (roots:List Int) (hrow:RowIs w g0 roots) (hg0:g0∉B.own) (hr:RootsOk S roots) (hlen:roots.length≤1000) (hn:S.n≤12) :
  Calls Tryz.prog 221 #[.pointer (some ⟨B.b,0,none⟩),.slice (some ⟨g0,0,none⟩) roots.length c0] w fun e w'=>e=.returned (.tuple #[])∧∃ S',StoreAt w' B S'∧Swept S S' roots∧Keeps B.own w w':=
 callsIn_wide.1 (sweep_in 0 hS hw g0 c0 roots hrow hg0 hr hlen (fun _ _ h=>NInv.few (withK_wf hw []) hr h hn hlen))
end
section
open Go.RowKit
structure EngS (w:World) (B:SB) (S:ST):Prop where
 sat:StoreAt w B S
 wf:WF S
 kok:KOK S
 ord:S.order=rgs 12
 co:12≤B.co
theorem EngS.n {w:World} {B:SB} {S:ST} (h:EngS w B S):S.n=12:=by unfold ST.n;rw [h.ord];rfl
theorem EngS.ho {w:World} {B:SB} {S:ST} (h:EngS w B S):∀ i:Nat,i<S.n→S.order[i]?=some (i:Int):=fun i hi=>by rw [h.ord];exact rgs_get (by rw [←h.n];exact hi)
theorem EngS.idn {w:World} {B:SB} {S:ST} (h:EngS w B S):Idn S:=fun v v0 v1=>by
 obtain ⟨i,rfl⟩:=Int.eq_ofNat_of_zero_le v0
 have:=(h.wf.ord.op i _ (h.ho i (by omega))).2.2
 rw [Int.toNat_natCast] at this
 unfold ST.pl
 rw [Int.toNat_natCast,this];rfl
theorem EngS.keeps {w w':World} {B:SB} {S:ST} {T:List Nat} (h:EngS w B S) (k:Keeps T w w') (hT:∀ i∈B.own,i∉T):EngS w' B S:=⟨h.sat.keeps k hT,h.wf,h.kok,h.ord,h.co⟩
theorem EngS.keeps0 {w w':World} {B:SB} {S:ST} (h:EngS w B S) (k:Keeps [] w w'):EngS w' B S:=h.keeps k (by simp)
def Rep (S:ST) (f:Int) (c:Nat) (R:List Nat→Prop):Prop:=S.ok f∧∀ σ,S.den f σ=true↔R (tupF σ 0 c)
def RepB (S:ST) (f:Int) (F:(Int→Bool)→Prop):Prop:=S.ok f∧∀ σ,S.den f σ=true↔F σ
theorem RepB.ext {S S':ST} {f:Int} {F:(Int→Bool)→Prop} (h:RepB S f F) (x:Ext S S') (hw:WF S) (hw':WF S'):RepB S' f F:=⟨x.ok h.1,fun σ=>by rw [x.den hw hw' h.1];exact h.2 σ⟩
theorem Rep.hk {S:ST} {f:Int} {c:Nat} {R:List Nat→Prop} (h:Rep S f c R):Hk (3 * c) S f:=fun v v0 v1 σ b=>by
 have e:tupF (upd σ v b) 0 c=tupF σ 0 c:=tupF_congr c 0 fun u _ hu=>upd_ne _ _ (by omega)
 have h1:=h.2 (upd σ v b)
 rw [e,←h.2 σ] at h1
 cases h2:S.den f σ <;> cases h3:S.den f (upd σ v b) <;> simp_all
def OutB (B:SB) (w:World) (S:ST) (F:(Int→Bool)→Prop) (c:Int) (e:Ending) (w':World):Prop:=
 ∃ r S',e=.returned (.int .i64 r)∧EngS w' B S'∧Keeps B.own w w'∧Ext S S'∧S'.next≤S.next+c∧RepB S' r F
theorem ord_ext {S S':ST} (x:Ext S S') (h:S.order=rgs 12):S'.order=rgs 12:=x.order.trans h
theorem outB_gives {B:SB} {w:World} {S:ST} {G:(Int→Bool)→Bool} {F:(Int→Bool)→Prop} {c m:Int} {e:Ending} {w':World} (hE:EngS w B S) (h:Gives B w S G c m e w') (hF:∀ σ,G σ=true↔F σ):OutB B w S F c e w':=by
 obtain ⟨r,S',rfl,h1,h2,p⟩:=h
 exact ⟨r,S',rfl,⟨h1,p.wf,p.known,ord_ext p.ext hE.ord,hE.co⟩,h2,p.ext,p.next,p.ok,fun σ=>by rw [p.den];exact hF σ⟩
theorem cst12:cst 12=4095:=by decide
theorem fc12:fc (cst 12) 12=16769025:=by decide
theorem fc13:fc (cst 12+1) 12=16773120:=by decide
section
variable {B:SB} {w:World} {S:ST} {f g:Int} {F G:(Int→Bool)→Prop}
theorem or_E (hE:EngS w B S) (hf:RepB S f F) (hg:RepB S g G) (hl:S.next+4095<lim):Calls Tryz.prog 73 #[.pointer (some ⟨B.b,0,none⟩),.int .i64 f,.int .i64 g] w (OutB B w S (fun σ=>F σ∨G σ) 4095):=by
 have:=or_calls f g hE.sat hE.wf hE.kok hf.1 hg.1 (by rw [hE.n,cst12];exact hl)
 rw [hE.n,cst12] at this
 exact this.mono fun e w' h=>outB_gives hE h fun σ=>by rw [Bool.or_eq_true,hf.2,hg.2]
theorem and_E (hE:EngS w B S) (hf:RepB S f F) (hg:RepB S g G) (hl:S.next+4095<lim):Calls Tryz.prog 148 #[.pointer (some ⟨B.b,0,none⟩),.int .i64 f,.int .i64 g] w (OutB B w S (fun σ=>F σ∧G σ) 4095):=by
 have:=and_calls f g hE.sat hE.wf hE.kok hf.1 hg.1 (by rw [hE.n,cst12];exact hl)
 rw [hE.n,cst12] at this
 exact this.mono fun e w' h=>outB_gives hE h fun σ=>by rw [Bool.and_eq_true,hf.2,hg.2]
theorem diff_E (hE:EngS w B S) (hf:RepB S f F) (hg:RepB S g G) (hl:S.next+4095<lim):Calls Tryz.prog 88 #[.pointer (some ⟨B.b,0,none⟩),.int .i64 f,.int .i64 g] w (OutB B w S (fun σ=>F σ∧¬ G σ) 4095):=by
 have:=diff_calls f g hE.sat hE.wf hE.kok hf.1 hg.1 (by rw [hE.n,cst12];exact hl)
 rw [hE.n,cst12] at this
 exact this.mono fun e w' h=>outB_gives hE h fun σ=>by rw [Bool.and_eq_true,hf.2,←hg.2];simp
theorem xor_E (hE:EngS w B S) (hf:RepB S f F) (hg:RepB S g G) (hl:S.next+8190<lim):Calls Tryz.prog 213 #[.pointer (some ⟨B.b,0,none⟩),.int .i64 f,.int .i64 g] w (OutB B w S (fun σ=>¬ (F σ↔G σ)) 8190):=by
 have:=xor_calls f g hE.sat hE.wf hE.kok hf.1 hg.1 (by rw [hE.n,cst12];omega)
 rw [hE.n,cst12] at this
 exact this.mono fun e w' h=>outB_gives hE h fun σ=>by rw [←hf.2,←hg.2];cases S.den f σ <;> cases S.den g σ <;> simp
theorem not_E (hE:EngS w B S) (hf:RepB S f F) (hl:S.next+4095<lim):Calls Tryz.prog 170 #[.pointer (some ⟨B.b,0,none⟩),.int .i64 f] w (OutB B w S (fun σ=>¬ F σ) 4095):=by
 have:=not_calls f hE.sat hE.wf hE.kok hf.1 (by rw [hE.n,cst12];exact hl)
 rw [hE.n,cst12] at this
 exact this.mono fun e w' h=>outB_gives hE h fun σ=>by rw [←hf.2];simp
theorem var_E (hE:EngS w B S) (i:Nat) (hi:i<12) (hl:S.next+1<lim):Calls Tryz.prog 145 #[.pointer (some ⟨B.b,0,none⟩),.int .i64 (i:Int)] w (OutB B w S (fun σ=>σ i=true) 1):=by
 have:=svar_calls (i:Int) hE.sat hE.wf hE.kok (by omega) (by rw [hE.n];omega) (by unfold lim at hl ⊢;omega)
 exact this.mono fun e w' h=>outB_gives hE h fun σ=>Iff.rfl
theorem subst_E (hE:EngS w B S) {bt ct k:Nat} {bys:List Int} (hf:S.ok f) (hG:Hk k S f) (hrow:RowIs w bt bys) (hbt:bt∉B.own) (hlen:k≤bys.length) (hby:∀ b∈bys,S.ok b) (hl:S.next+16769025<lim) :
  Calls Tryz.prog 146 #[.pointer (some ⟨B.b,0,none⟩),.int .i64 f,.slice (some ⟨bt,0,none⟩) bys.length ct] w (OutB B w S (fun σ=>S.den f (sbV S bys σ)=true) 16769025):=by
 have:=substG_calls (ct:=ct) f bt k bys hE.sat hE.wf hE.kok hf hrow hbt hlen hby hG (by rw [hE.n,fc12];exact hl)
 rw [hE.n,fc12] at this
 refine this.mono ?_
 rintro e w' ⟨r,S',rfl,h1,h2,p⟩
 exact ⟨r,S',rfl,⟨h1,p.wf,p.known,ord_ext p.ext hE.ord,hE.co⟩,h2,p.ext,p.next,p.rel.1,fun σ=>by rw [p.rel.2,p.ext.den hE.wf p.wf hf,sbV_ext p.ext hE.wf p.wf hby]⟩
theorem exists_E (hE:EngS w B S) {X:Nat} (hf:RepB S f F) (hX:X<4096) (hl:S.next+16773120<lim) :
  Calls Tryz.prog 147 #[.pointer (some ⟨B.b,0,none⟩),.int .i64 f,.int .i64 (X:Int)] w (OutB B w S (fun σ=>∃ τ:Int→Bool,(∀ v:Nat,v<12→X.testBit v=false→τ v=σ v)∧F τ) 16773120):=by
 have:=exists_calls f (X:Int) hE.sat hE.wf hE.kok hf.1 (by rw [hE.n];omega) (by omega) (by omega) (by rw [hE.n,fc13];exact hl)
 rw [hE.n,fc13] at this
 refine this.mono ?_
 rintro e w' ⟨r,S',rfl,h1,h2,p⟩
 have hn:S'.n=12:=by rw [p.ext.n,hE.n]
 refine ⟨r,S',rfl,⟨h1,p.wf,p.known,ord_ext p.ext hE.ord,hE.co⟩,h2,p.ext,p.next,p.rel.1,fun σ=>?_⟩
 rw [p.rel.2.2]
 constructor
 ·rintro ⟨τ,h3,h4⟩
  exact ⟨τ,fun v hv hb=>h3 v (by omega) (by rw [hn];omega) (by rw [bitN];exact hb),by rw [p.ext.den hE.wf p.wf hf.1,hf.2] at h4;exact h4⟩
 ·rintro ⟨τ,h3,h4⟩
  refine ⟨τ,fun v v0 v1 hb=>?_,by rw [p.ext.den hE.wf p.wf hf.1,hf.2];exact h4⟩
  obtain ⟨i,rfl⟩:=Int.eq_ofNat_of_zero_le v0
  rw [hn] at v1
  exact h3 i (by omega) (by rw [←bitN];exact hb)
end
structure BsAt (w:World) (bb:Nat) (B:SB):Prop where
 cell:w.cell? ⟨bb,4,none⟩=some (.pointer (some ⟨B.b,0,none⟩))
 lt:bb<w.heap.size
 no:bb∉B.own
theorem cell_kept {w w':World} {T:List Nat} (k:Keeps T w w') {b i:Nat} (hb:b<w.heap.size) (hT:b∉T):w'.cell? ⟨b,i,none⟩=w.cell? ⟨b,i,none⟩:=by
 unfold World.cell?
 rw [k.block b hb hT]
theorem BsAt.keeps {w w':World} {bb:Nat} {B:SB} {T:List Nat} (h:BsAt w bb B) (k:Keeps T w w') (hT:bb∉T):BsAt w' bb B:=⟨by rw [cell_kept k h.lt hT];exact h.cell,Nat.lt_of_lt_of_le h.lt k.size,h.no⟩
theorem BsAt.own {w w':World} {bb:Nat} {B:SB} (h:BsAt w bb B) (k:Keeps B.own w w'):BsAt w' bb B:=h.keeps k h.no
theorem variable_calls (w:World) (p i:Nat) (hp:p<100) (hi:i<100):Calls Tryz.prog 144 #[.int .i64 (p:Int),.int .i64 (i:Int)] w fun e w'=>e=.returned (.int .i64 ((3 * p+i:Nat):Int))∧w' = w:=by
 go_enter Tryz.func144,Tryz.ntmps144
 go_wp2
 go_ret
 exact ⟨by simp,rfl⟩
end
end Go.Proofs.YtgjomknpjigkhaaGreatDoor
