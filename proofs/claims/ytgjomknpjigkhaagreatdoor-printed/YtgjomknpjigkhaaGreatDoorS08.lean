import Derived.Test.YtgjomknpjigkhaaGreatDoorS07
import Derived.Test.YtgjomknpjigkhaaGreatDoorS06
import Derived.Deep.RegionWith
import Derived.StillTail
namespace Go.Proofs.YtgjomknpjigkhaaGreatDoor
set_option maxRecDepth 100000
set_option maxHeartbeats 4000000
section
open Go.RowKit Go.Shelf
attribute [local go_sem] Oper.semAt_some
def sliceLen:Value→Nat
 | .slice _ n _=>n
 | _=>0
def mapSize (w:World) (r:Nat):Nat:=match w.heap[r]? with
 | some (.map es _)=>es.size
 | _=>0
theorem mapSize_is {α β:Type} {ek:α→Value} {ev:β→Value} {w:World} {r:Nat} {L:List (α×β)} (h:MapIs ek ev w r L):mapSize w r=L.length:=by
 obtain ⟨es,clock,h1,h2,_⟩:=h
 have:=congrArg List.length h2
 simp only [List.length_map,Array.length_toList] at this
 simp [mapSize,h1,this]
def eN (x:Int×Tri):Array Value:=#[.int .i64 x.1,.agg #[.int .i64 x.2.1,.int .i64 x.2.2.1,.int .i64 x.2.2.2]]
theorem NInv.few {S:ST} (hw:WF S) {roots ws:List Int} {xs:List (Int×Tri)} (hr:RootsOk S roots) (h:NInv S roots ws xs) (hn:S.n≤12) (hl:roots.length≤1000):xs.length≤100000000:=by
 have h1:=flatMap_length S.N S.n roots
 have h2:=nodup_len (xs.map Prod.fst) (roots.flatMap (tree S.N S.n)) h.nodup (fun f hf=>by
  obtain ⟨p,hp,rfl⟩:=List.mem_map.1 hf
  exact reach_tree hw hr (h.reach p hp))
 rw [List.length_map] at h2
 have h3:cst S.n≤4095:=cst_mono hn
 have h4:(roots.length:Int) * cst S.n≤1000 * 4095:=Int.mul_le_mul (by omega) h3 (cst_nonneg _) (by omega)
 omega
theorem nodes_iter {w:World} {B:SB} {S:ST} (hS0:StoreAt w B S) (hw:WF S) (pr ps g0 c0:Nat) (roots:List Int) (hpr0:CellsAt w pr #[.slice (some ⟨g0,0,none⟩) roots.length c0]) (hps0:CellsAt w ps #[.pointer (some ⟨B.b,0,none⟩)]) (hrow0:RowIs w g0 roots) (hr:RootsOk S roots)
  (hlen:roots.length≤1000) (hN:∀ xs ws,NInv S roots ws xs→xs.length≤100000000) (T:List Nat) (hT:∀ t∈T,t<w.heap.size∧t∉B.own∧t≠ps) :
  Iter 280 #[.pointer (some ⟨pr,0,none⟩),.pointer (some ⟨ps,0,none⟩)] eN (fun pre x=>get S.N x.1=some x.2∧pre.length<S.N.length) (GoodNodes S roots) T w:=by
 obtain ⟨i0,hi0,hz0,hz1,hz2⟩:=info_parts info3
 intro n l J W hl hlW hb hJ hY h0
 have hS:=hS0.of_heap (w':=W) (fun i hi=>hb.block i (hS0.lt i hi))
 have hpr:=hpr0.of_heap (w':=W) (hb.block pr hpr0.lt)
 have hps:=hps0.of_heap (w':=W) (hb.block ps hps0.lt)
 have hrow:=hrow0.of_heap (w':=W) (hb.block g0 hrow0.lt)
 have hmm:=@run_makeMap Tryz.prog
 have k1:=Keeps.alloc [] W (.map #[] 0)
 have hpr1:=hpr.keeps k1 (by simp)
 have hps1:=hps.keeps k1 (by simp)
 have hrow1:=hrow.kept k1 (by simp)
 have hS1:=hS.keeps k1 (by simp)
 have hM1:MapIs eI eU (W.alloc (.map #[] 0)) W.heap.size ([]:List (Int×Unit)):=MapIs.new W 0
 have p0:=hpr1.cell 0
 simp at p0
 have HY:=hide hY
 have HJ:=hide hJ
 clear hY hJ
 have hc:=hide (clone_calls (cap:=c0) hrow1 (by omega))
 refine callsIn_of_wp Tryz.func280 rfl trivial ?_ rfl
 simp only [Tryz.ntmps280,List.size_toArray,List.length_cons,List.length_nil,Nat.reduceAdd,Nat.reduceSub,Array.replicate_succ,Array.replicate_zero,List.push_toArray,List.append_toArray,List.nil_append,List.cons_append]
 gi_wp2_with fail
 refine ⟨trivial,fun h=>(nomatch h),?_⟩
 refine (callsIn_wide.2 hc.out).mono ?_
 rintro e W2 ⟨v,rfl,hv,k2,hvn⟩
 have hex:∃ g cap,v=.slice (some ⟨g,0,none⟩) roots.length cap:=by
  rcases hv.2 with ⟨e,_⟩ | ⟨g,cap,cur,e,_⟩
  ·exact absurd e hvn
  ·exact ⟨g,cap,e⟩
 obtain ⟨g1,cap1,hv1⟩:=hex
 subst hv1
 have hM2:=hM1.kept k2 (by simp)
 have kk2:Keeps (l :: T) W W2:=((k1.trans k2).mono (by simp))
 have hv2:W2.ownsRow W.heap.size 3 1 (.slice (some ⟨g1,0,none⟩) roots.length cap1) roots.length (ints roots):=ownsRow_base hv (by simp)
 have hJ2:J [] W2:=HJ.out _ _ _ h0 ((k1.trans k2).below (Nat.le_refl _) (by simp))
 clear hv hvn hc p0 hrow1 hpr1 hpr hrow hM1
 gi_wp2_with fail
 gi_loopw [5] (fun t wr=>∃ (g cap:Nat) (ws:List Int) (xs:List (Int×Tri)),t=.slice (some ⟨g,0,none⟩) ws.length cap∧wr.ownsRow W.heap.size 3 1 t ws.length (ints ws)∧MapIs eI eU wr W.heap.size (xs.map fun x=>(x.1,()))∧NInv S roots ws xs∧J xs wr∧Keeps (l :: T) W wr∧ws.length≤roots.length+2 * xs.length)
  (fun t wr=>sliceLen t+3 * (S.N.length - mapSize wr W.heap.size))
 case atStart=>exact ⟨g1,cap1,roots,[],rfl,hv2,hM2,NInv.start hr,hJ2,kk2,by simp⟩
 case round=>
  obtain ⟨g,cap,ws,xs,rfl,hrow,hmap,hinv,hJs,hkp,hwl⟩:=hrel
  clear hv2 hM2 hJ2 kk2 k2 hS1 hps1
  have hSr:=hS.keeps hkp (fun i hi x=>by
   rcases List.mem_cons.1 x with e | x
   ·have:=hS0.lt i hi;omega
   ·exact (hT _ x).2.1 hi)
  have hpsr:=hps.keeps hkp (fun x=>by
   rcases List.mem_cons.1 x with e | x
   ·have:=hps0.lt;omega
   ·exact (hT _ x).2.2 rfl)
  have hms:=mapSize_is hmap
  rw [List.length_map] at hms
  have hxl:=hinv.length
  have hxb:=hN _ _ hinv
  have Hms:=hide hms
  clear hms
  rcases List.eq_nil_or_concat ws with rfl | ⟨ws',f,rfl⟩
  ·simp only [List.length_nil] at hrow ⊢
   gi_wp2
   go_end0
   exact ⟨⟨_,rfl⟩,xs,hinv.done,hJs,hkp⟩
  ·rw [List.concat_eq_append] at *
   simp only [List.length_append,List.length_cons,List.length_nil,Nat.zero_add] at hrow hwl ⊢
   have hcell:wr.cell? ⟨g,ws'.length,none⟩=some (.int .i64 f):=ownsRow_cell hrow (by simp)
   have hat:=ownsRow_at hrow
   have hrow':wr.ownsRow W.heap.size 3 1 (.slice (some ⟨g,0,none⟩) ws'.length cap) ws'.length (ints ws'):=
    ownsRow_pop (xs:=ints ws') (last:=[.int .i64 f]) (by simp [ints]) (by simpa [ints] using hrow)
   have hk63:(ws'.length:Int)≤9223372036854775806:=by omega
   have Hrow:=hide hrow
   clear hrow
   cases hsn:get (xs.map fun x=>(x.1,())) f with
   | some u=>
    have hlk:=run_look (P:=Tryz.prog) Tryz.underlying338 key3 (z:=.agg #[]) zero339 hmap f true
    simp only [hsn,Option.map_some,Option.getD_some,eI,eU,Option.isSome_some,if_true] at hlk
    have hfm:f∈xs.map Prod.fst:=by
     have:=get_some_mem hsn
     obtain ⟨x,hx,e⟩:=List.mem_map.1 this
     simp only [Prod.mk.injEq] at e
     exact List.mem_map.2 ⟨x,hx,e.1⟩
    clear hsn
    have kA:=Keeps.alloc [] wr (.cells #[] 339)
    have hmA:=hmap.kept kA (by simp)
    have hmsA:=mapSize_is hmA
    rw [List.length_map] at hmsA
    have HmsA:=hide hmsA
    clear hmsA
    gi_wp2_with fail
    refine ⟨⟨g,cap,ws',xs,rfl,ownsRow_kept hrow' kA (by simp),hmA,hinv.skip (.inl hfm),HJ.out _ _ _ hJs (kA.below hkp.size (by simp)),hkp.trans (kA.mono (by simp)),by omega⟩,?_⟩
    rw [Hms.out,HmsA.out]
    simp only [sliceLen]
    omega
   | none=>
    have hlk:=run_look (P:=Tryz.prog) Tryz.underlying338 key3 (z:=.agg #[]) zero339 hmap f true
    simp only [hsn,Option.map_none,Option.getD_none,eI,Option.isSome_none,if_true] at hlk
    have hfm:f∉xs.map Prod.fst:=by
     intro hx
     obtain ⟨x,hx,e⟩:=List.mem_map.1 hx
     exact get_none_iff.1 hsn (x.1,()) (List.mem_map.2 ⟨x,hx,rfl⟩) e
    have Hsn:=hide hsn
    clear hsn
    have kA:=Keeps.alloc [] wr (.cells #[] 339)
    have hmA:=hmap.kept kA (by simp)
    by_cases f1:f≤1
    ·have hmsA:=mapSize_is hmA
     rw [List.length_map] at hmsA
     have HmsA:=hide hmsA
     clear hmsA
     gi_wp2_with fail
     refine ⟨⟨g,cap,ws',xs,rfl,ownsRow_kept hrow' kA (by simp),hmA,hinv.skip (.inr f1),HJ.out _ _ _ hJs (kA.below hkp.size (by simp)),hkp.trans (kA.mono (by simp)),by omega⟩,?_⟩
     rw [Hms.out,HmsA.out]
     simp only [sliceLen]
     omega
    ·have f2:2≤f:=by omega
     have hd1:decide (f≤1)=false:=by simp;omega
     obtain ⟨v,lo,hi,ht⟩:∃ v lo hi,get S.N f=some (v,lo,hi):=by
      rcases (hinv.wok f (by simp)).1 with e | e | ⟨_,⟨a,b,c⟩,ht⟩
      ·omega
      ·omega
      ·exact ⟨a,b,c,ht⟩
     have hinv':=hinv.take hw hfm f2 ht
     have hxl':=hinv'.length
     simp only [List.length_append,List.length_cons,List.length_nil] at hxl'
     obtain ⟨o,hrun,hmB⟩:=run_upd (P:=Tryz.prog) Tryz.underlying338 key3 hmA f ()
     simp only [eI,eU] at hrun
     have kB:Keeps [W.heap.size] (wr.alloc (.cells #[] 339)) (blk (wr.alloc (.cells #[] 339)) W.heap.size o):=Keeps.blk _ _ _
     have hWr:W.heap.size<wr.heap.size:=hmap.lt
     have kAB:Keeps [W.heap.size] wr (blk (wr.alloc (.cells #[] 339)) W.heap.size o):=(kA.mono (by simp)).trans kB
     have hSB:=hSr.keeps kAB (fun i hi x=>by have:=hS0.lt i hi;have:=hb.size;simp at x;omega)
     have hpsB:=hpsr.keeps kAB (by have:=hps0.lt;have:=hb.size;simp;omega)
     have hsB:(blk (wr.alloc (.cells #[] 339)) W.heap.size o).heap.size=wr.heap.size+1:=by simp [blk]
     have cps:=hpsB.cell 0
     have c2:=hSB.head.cell 2
     simp at cps c2
     have hl71:=look71' hSB ht
     have kC:=Keeps.alloc [] (blk (wr.alloc (.cells #[] 339)) W.heap.size o) (.cells #[.int .i64 v,.int .i64 lo,.int .i64 hi] 228)
     have hNC:=CellsAt.new (blk (wr.alloc (.cells #[] 339)) W.heap.size o) #[.int .i64 v,.int .i64 lo,.int .i64 hi] 228
     have kABC:=kAB.trans (kC.mono (by simp))
     have hJC:J xs _:=HJ.out _ _ _ hJs (kABC.below hkp.size (by simp))
     have hmC:=hmB.kept kC (by simp)
     have hrowC:=ownsRow_kept hrow' kABC (fun i e=>by
      simp only [Value.ownBlock,Option.some.injEq] at e
      subst e
      intro x
      simp only [List.mem_singleton] at x
      obtain ⟨es,ck,h1,_⟩:=hmap
      rcases hrow'.2 with ⟨h2,_⟩ | ⟨_,_,_,e2,_,hh,_⟩
      ·cases h2
      ·cases e2;rw [x,h1] at hh;cases hh)
     obtain ⟨fn,tmps,assign,body,hy,hR⟩:=HY.out xs (f,(v,lo,hi)) _ hJC ⟨ht,by omega⟩
     simp only [eN] at hy
     gi_wp2_with fail
     refine ⟨fun h=>(nomatch h),?_⟩
     refine hR.mono ?_
     rintro e W3 ⟨rfl,hJ3,k3⟩
     have hlT:∀ i,W.heap.size≤i→i∉l :: T:=fun i hi x=>by
      rcases List.mem_cons.1 x with e | x
      ·omega
      ·have:=(hT _ x).1;have:=hb.size;omega
     rw [hsB] at hNC
     have hN3:=hNC.keeps k3 (hlT _ (by omega))
     have hrow3:=ownsRow_kept hrowC k3 (fun i e=>by
      simp only [Value.ownBlock,Option.some.injEq] at e
      exact hlT _ (by omega))
     have hm3:=hmC.kept k3 (hlT _ (Nat.le_refl _))
     have k4:=Keeps.alloc [] W3 (.cells #[.int .i64 hi,.int .i64 lo] 3)
     have hrow4:=ownsRow_kept hrow3 k4 (by simp)
     have hcell4:∀ (j:Nat) (u:Value),(ints [hi,lo])[j]?=some u→(W3.alloc (.cells #[.int .i64 hi,.int .i64 lo] 3)).cell? ((⟨W3.heap.size,0,none⟩:Addr).add j)=some u:=by
      intro j u hu
      rw [Addr.add_lit,Nat.zero_add,(CellsAt.new W3 #[.int .i64 hi,.int .i64 lo] 3).cell j]
      rw [←hu,←List.getElem?_toArray]
      rfl
     have hsz3:W.heap.size≤W3.heap.size:=by have:=k3.size;have:=kABC.size;omega
     have n1:=hN3.cell 1
     have n2:=hN3.cell 2
     simp at n1 n2
     clear hR hy hl71 cps c2 hrun hlk hcell
     gi_wp2_with (gi_at_builtin;refine wpListIn_append_own _ rfl _ _ 40 rfl W.heap.size 3 i0 (.int .i64 0) 1 8 Tryz.underlying40 hi0 hz0 hz1 hz2 rfl (by decide) _ ws'.length (ints ws') rfl hrow4 ⟨W3.heap.size,0,none⟩ 2 2 (ints [hi,lo]) rfl (by simp [ints]) hcell4 (ints_one _) (by unfold maxLen;omega) (by omega) (by simp;omega) ?_)
     intro v' W5 hown' hgrow hnil
     have hex:∃ g' cap',v' = .slice (some ⟨g',0,none⟩) (ws'.length+2) cap':=by
      rcases hown'.2 with ⟨e,e2⟩ | ⟨g',cap',cur,e,_⟩
      ·omega
      ·exact ⟨g',cap',e⟩
     obtain ⟨g',cap',hv'⟩:=hex
     subst hv'
     have k5:Keeps [g] (W3.alloc (.cells #[.int .i64 hi,.int .i64 lo] 3)) W5:=grownBy_keeps' hgrow [g] (fun r e=>by
      simp only [Value.ownBlock,Option.some.injEq] at e
      exact .inl (by simp [e]))
     have hgm:W.heap.size≠g:=fun e=>by
      obtain ⟨es,ck,h1,_⟩:=hm3
      rcases hrow3.2 with ⟨h2,_⟩ | ⟨_,_,_,e2,_,hh,_⟩
      ·cases h2
      ·cases e2;rw [←e,h1] at hh;cases hh
     have hm5:=(hm3.kept k4 (by simp)).kept k5 (by simpa using hgm)
     have hms5:=mapSize_is hm5
     have Hms5:=hide hms5
     clear hms5 hnil
     have hput:put (xs.map fun x=>(x.1,())) f ()=(xs++[(f,(v,lo,hi))]).map fun x=>(x.1,()):=by
      unfold put
      rw [Hsn.out]
      simp
     have Hput:=hide hput
     clear hput
     gi_wp2_with fail
     refine ⟨⟨g',cap',ws'++[hi,lo],xs++[(f,(v,lo,hi))],by simp,?_,?_,hinv',?_,?_,?_⟩,?_⟩
     ·have:ints (ws'++[hi,lo])=ints ws'++ints [hi,lo]:=by simp [ints]
      rw [this]
      simpa using hown'
     ·rw [←Hput.out];exact hm5
     ·exact HJ.out _ _ _ hJ3 ((k4.mono (T':=[g]) (by simp)).trans k5 |>.below hsz3 (by simp;exact hat.1))
     ·refine ((hkp.trans_new kABC (by simp)).trans k3).trans_new ((k4.mono (T':=[g]) (by simp)).trans k5) ?_
      intro i hi
      simp only [List.mem_singleton] at hi
      exact .inr (by omega)
     ·simp only [List.length_append,List.length_cons,List.length_nil];omega
     ·rw [Hms.out,Hms5.out,Hput.out]
      simp only [sliceLen,List.length_map,List.length_append,List.length_cons,List.length_nil]
      omega
end
section
open Go.RowKit Go.Shelf
theorem nodes_calls (w:World) (p:Addr) (s:Option Addr) (n c:Nat) :
  Calls Tryz.prog 236 #[.pointer (some p),.slice s n c] w fun e w'=>e=.returned (.func (.func 280) #[] #[.pointer (some ⟨w.heap.size+1,0,none⟩),.pointer (some ⟨w.heap.size,0,none⟩)]) ∧
   w' = (w.alloc (.cells #[.pointer (some p)] 135)).alloc (.cells #[.slice s n c] 40):=by
 go_enter Tryz.func236,Tryz.ntmps236
 go_wp2
 go_ret
 exact ⟨rfl,rfl⟩
theorem size_alloc' (w:World) (o:Obj):(w.alloc o).heap.size=w.heap.size+1:=by simp
theorem StoreAt.fresh' {w:World} {B:SB} {S:ST} (h:StoreAt w B S) {i:Nat} (hi:w.heap.size≤i):i∉B.own:=fun x=>by have:=h.lt _ x;omega
attribute [local go_sem] Oper.semAt_some
end
section
open Go.RowKit Go.Shelf
attribute [local go_sem] Oper.semAt_some
theorem yieldAt_wide {m m':Nat} {l:Nat} {args:Array Value} {W:World} {R:Ending→World→Prop} (h:YieldAt Fence.wide m Tryz.prog l args W R):YieldAt Fence.wide m' Tryz.prog l args W R:=
 let ⟨fn,tmps,assign,body,h1,h2,h3⟩:=h
 ⟨fn,tmps,assign,body,h1,h2,fun c cs _=>h3 c cs (room_wide _)⟩
theorem or_pow {a i:Nat} (h:a<2 ^ i) (hi:i<12):bits BinOp.or IntKind.i64 (a:Int) ((2 ^ i:Nat):Int)=((a+2 ^ i:Nat):Int):=by
 have hp:2 ^ i<2 ^ 12:=Nat.pow_lt_pow_right (by decide) hi
 have e2:=(bits_nat .i64 62 (by decide) (fun n a b=>by rw [IntKind.wrap_i64];omega) a (2 ^ i) (by omega) (by omega)).2
 rw [e2]
 have:=Nat.two_pow_add_eq_or_of_lt h 1
 rw [Nat.mul_one] at this
 rw [Nat.or_comm,←this,Nat.add_comm]
def eA (x:Nat):Array Value:=#[.int .i64 (x:Int)]
theorem tell_zero (W:World) (p v y:Value) (a:Int):Calls Tryz.prog 154 #[p,.int .i64 0,.int .i64 a,v,y] W fun e W'=>e=.returned (.bool true)∧W' = W:=by
 go_enter Tryz.func154,Tryz.ntmps154
 go_wp2
 go_ret
 exact ⟨rfl,rfl⟩
theorem tell_end (n:Nat) (W:World) (p:Value) (f:Int) (hf:(f == 0)=false) (a l c:Nat) (s:Option Addr) {R:Ending→World→Prop} (hY:∀ m,YieldAt Fence.wide m Tryz.prog l (eA a) W fun e W'=>∃ b,e=.returned (.bool b)∧R e W') :
  CallsIn Fence.wide n Tryz.prog 154 #[p,.int .i64 f,.int .i64 (a:Int),.slice s 0 c,.func (.yield l) #[] #[]] W R:=by
 refine callsIn_of_wp Tryz.func154 rfl trivial ?_ rfl
 simp only [Tryz.ntmps154,List.size_toArray,List.length_cons,List.length_nil,Nat.reduceAdd,Nat.reduceSub,Array.replicate_succ,Array.replicate_zero,List.push_toArray,List.append_toArray,List.nil_append,List.cons_append]
 obtain ⟨fn,tmps,assign,body,hy,hR⟩:=hY (n - 1)
 simp only [eA] at hy
 gi_wp2_with fail
 refine ⟨fun h=>(nomatch h),?_⟩
 refine hR.mono ?_
 rintro e W3 ⟨b,rfl,hr⟩
 gi_wp2_with fail
 exact hr
def TellSays (B:SB) (S:ST) (l:Nat) (J:List Nat→World→Prop) (T L:List Nat) (z k:Nat):Prop:=
 ∀ (i:Nat) (f:Int) (a c:Nat) (pre:List Nat) (W:World),i+k≤S.n→S.n≤12→k+3≤c→a<2 ^ i→S.ok f→(i:Int)≤S.lev f→(pre++S.tl k i f a) <+: L→StoreAt W B S→z≤W.heap.size→J pre W →
  Calls Tryz.prog 154 #[.pointer (some ⟨B.b,0,none⟩),.int .i64 f,.int .i64 (a:Int),.slice (some ⟨B.bo,i,none⟩) k c,.func (.yield l) #[] #[]] W fun e W'=>e=.returned (.bool true)∧J (pre++S.tl k i f a) W'∧Keeps (l :: T) W W'
theorem pow_i {i:Nat} (hi:i<12):IntKind.i64.wrap (2 ^ i)=((2 ^ i:Nat):Int):=by
 have hp:2 ^ i<2 ^ 12:=Nat.pow_lt_pow_right (by decide) hi
 have e:((2 ^ i:Nat):Int)=(2:Int) ^ i:=by push_cast;rfl
 rw [←e]
 generalize 2 ^ i=m at hp ⊢
 rw [IntKind.wrap_i64]
 omega
theorem run_tail (b i k c:Nat) (hc:c≠1) (w:World):(Instr.slice 40 (.slice (some ⟨b,i,none⟩) (k+1) c) (some (.int .i64 1)) none none).run Tryz.prog w=.ok (.slice (some ⟨b,i+1,none⟩) k (c - 1)) w:=by
 rw [run_slice_l (P:=Tryz.prog) w 40 _ _ _ (by kernel_rfl) .i64 1 (by omega) (by push_cast;omega)]
 simp [go_sem,sliced,hc,Addr.add]
theorem pow_a {a i:Nat} (h:a<2 ^ i):a<2 ^ (i+1)∧a+2 ^ i<2 ^ (i+1):=by
 rw [Nat.pow_succ]
 generalize 2 ^ i=q at *
 omega
theorem tell_step {B:SB} {S:ST} (hw:WF S) (hid:Idn S) (ho:∀ i:Nat,i<S.n→S.order[i]?=some (i:Int)) {l:Nat} {J:List Nat→World→Prop} {T L:List Nat} {z:Nat} (hJ:Hid (∀ pre W1 W2,J pre W1→Go.RowKit.Below z W1 W2→J pre W2)) (hT:∀ i∈B.own,i∉l :: T) {k:Nat} (ih:Hid (TellSays B S l J T L z k))
  (i:Nat) (f:Int) (a c:Nat) (pre:List Nat) (W:World) (hn:i+(k+1)≤S.n) (n12:S.n≤12) (hc:k+1+3≤c) (ha:a<2 ^ i) (hf:S.ok f) (hf0:(f == 0)=false) (hl:(i:Int)≤S.lev f) (hpre:Hid ((pre++(S.tl k (i+1) (S.cof f i).1 a++S.tl k (i+1) (S.cof f i).2 (a+2 ^ i))) <+: L)) (hS:StoreAt W B S) (hz:z≤W.heap.size) (h0:J pre W) :
  Calls Tryz.prog 154 #[.pointer (some ⟨B.b,0,none⟩),.int .i64 f,.int .i64 (a:Int),.slice (some ⟨B.bo,i,none⟩) (k+1) c,.func (.yield l) #[] #[]] W fun e W'=>e=.returned (.bool true)∧J (pre++(S.tl k (i+1) (S.cof f i).1 a++S.tl k (i+1) (S.cof f i).2 (a+2 ^ i))) W'∧Keeps (l :: T) W W':=by
 have hi12:i<12:=by omega
 have hi:(i:Int)<S.n:=by omega
 have hpi:=hid i (by omega) hi
 obtain ⟨ok0,ok1,l0,l1,_,_,_⟩:=cof_spec hw hf (u:=i) (by omega) hi (by rw [hpi];exact hl)
 rw [hpi] at l0 l1
 have hc0:=hS.order.cell (ho i (by omega))
 have hsp:=hide (split_calls hS hw f i hf)
 have hor:=or_pow ha hi12
 have hpw:=pow_i hi12
 have Ha:=hide (pow_a ha)
 clear ha
 generalize hA:2 ^ i=A at hor hpw Ha hpre ⊢
 generalize a+A=a2 at hor Ha hpre ⊢
 generalize hf0':(S.cof f i).1=f0 at *
 generalize hf1':(S.cof f i).2=f1 at *
 go_enter Tryz.func154,Tryz.ntmps154
 go_wp2_with fail
 refine hsp.out.mono ?_
 rintro e W1 ⟨rfl,k1⟩
 have hS1:=hS.keeps k1 (by simp)
 have hS1d:=hS1.keeps (Keeps.drew [] W1) (by simp)
 have hz1:z≤W1.heap.size:=Nat.le_trans hz k1.size
 have h1:J pre W1.drew:=hJ.out _ _ _ h0 ((k1.trans (Keeps.drew [] W1)).below hz (by simp))
 have hpre1:Hid ((pre++S.tl k (i+1) f0 a) <+: L):=((List.prefix_append _ _).trans (by rw [List.append_assoc];exact hpre.out))
 have hc1:=hide (ih.out (i+1) f0 a (c - 1) pre W1.drew (by omega) n12 (by omega) Ha.out.1 ok0 (by push_cast;omega) hpre1.out hS1d hz1 h1)
 have hc01:=hS1.order.cell (ho i (by omega))
 have Hnx:=hide (fun (W2:World) (k2:Keeps (l :: T) W1.drew W2) (h2:J (pre++S.tl k (i+1) f0 a) W2)=>ih.out (i+1) f1 a2 (c - 1) (pre++S.tl k (i+1) f0 a) W2 (by omega) n12 (by omega) Ha.out.2 ok1 (by push_cast;omega) (by rw [List.append_assoc];exact hpre.out) (hS1d.keeps k2 hT) (Nat.le_trans hz1 k2.size) h2)
 have hbo:B.bo∉l :: T:=hT _ (by simp [SB.own])
 have hcd:=hS1d.order.cell (ho i (by omega))
 have Hcell:=hide (fun (W2:World) (k2:Keeps (l :: T) W1.drew W2)=>(hS1d.order.of_heap (k2.block _ hS1d.order.lt hbo)).cell (ho i (by omega)))
 clear hsp hpre ih
 have hsl:=run_tail B.bo i k c (by omega)
 go_wp2_with fail
 go_region_held3 (fun w'=>w'.cell? ⟨B.bo,i,none⟩=some (.int .i64 (i:Int))) (first | exact hcd | exact hc2 | exact hc3)
  (first
  | (go_at_call_of 154 (Value.int IntKind.i64 f0)
     refine hc1.out.mono ?_
     rintro e W2 ⟨rfl,h2,k2⟩
     have hc2:=Hcell.out _ k2)
  | (go_at_call_of 154 (Value.int IntKind.i64 f1)
     refine (Hnx.out _ k2 h2).mono ?_
     rintro e W3 ⟨rfl,h3,k3⟩
     have hc3:=Hcell.out _ (k2.trans k3)))
 all_goals
  go_wp2_with fail
  go_ret
  exact ⟨rfl,by rw [←List.append_assoc];exact h3,(((k1.trans (Keeps.drew [] W1)).mono (by simp)).trans k2).trans k3⟩
theorem tell_says {B:SB} {S:ST} (hw:WF S) (hid:Idn S) (ho:∀ i:Nat,i<S.n→S.order[i]?=some (i:Int)) {l:Nat} {J:List Nat→World→Prop} {T L:List Nat} {z:Nat} (hJ:∀ pre W1 W2,J pre W1→Go.RowKit.Below z W1 W2→J pre W2) (hT:∀ i∈B.own,i∉l :: T)
  (hY:∀ m pre x W1,J pre W1→(pre++[x]) <+: L→YieldAt Fence.wide m Tryz.prog l (eA x) W1 fun e W'=>e=.returned (.bool true)∧J (pre++[x]) W'∧Keeps (l :: T) W1 W'):∀ k,TellSays B S l J T L z k:=by
 intro k
 induction k with
 | zero=>
  intro i f a c pre W hn n12 hc ha hf hl hpre hS hz h0
  by_cases hf0:f=0
  ·subst hf0
   refine (tell_zero W _ _ _ _).mono ?_
   rintro e W' ⟨rfl,rfl⟩
   exact ⟨rfl,by simpa [ST.tl] using h0,Keeps.refl _ _⟩
  ·simp only [ST.tl,hf0,if_false] at hpre ⊢
   refine callsIn_wide.1 (tell_end 0 W _ f (by simpa using hf0) a l c _ fun m=>?_)
   exact (hY m pre a W h0 hpre).mono fun e W' h=>⟨true,h.1,h⟩
 | succ k ih=>
  intro i f a c pre W hn n12 hc ha hf hl hpre hS hz h0
  by_cases hf0:f=0
  ·subst hf0
   refine (tell_zero W _ _ _ _).mono ?_
   rintro e W' ⟨rfl,rfl⟩
   exact ⟨rfl,by simpa [ST.tl] using h0,Keeps.refl _ _⟩
  ·simp only [ST.tl,hf0,if_false] at hpre ⊢
   exact tell_step hw hid ho (hide hJ) hT (hide ih) i f a c pre W hn n12 hc ha hf (by simpa using hf0) hl hpre hS hz h0
theorem trues_calls (w:World) (p:Addr) (f v:Int) :
  Calls Tryz.prog 79 #[.pointer (some p),.int .i64 f,.int .i64 v] w fun e w'=>e=.returned (.func (.func 153) #[] #[.pointer (some ⟨w.heap.size,0,none⟩),.pointer (some ⟨w.heap.size+1,0,none⟩),.pointer (some ⟨w.heap.size+1+1,0,none⟩)]) ∧
   w' = ((w.alloc (.cells #[.pointer (some p)] 135)).alloc (.cells #[.int .i64 f] 3)).alloc (.cells #[.int .i64 v] 3):=by
 go_enter Tryz.func79,Tryz.ntmps79
 go_wp2
 go_ret
 exact ⟨rfl,rfl⟩
end
section
open Go.RowKit Go.Shelf
attribute [local go_sem] Oper.semAt_some
theorem still_quietV {P:Program} {ops:Array Oper} {W:World} {Q:Act→Prop}:∀ (l:List Oper) (a:Act),wpQuiet P ops (fun w'=>w' = W) Q l a→wpStill P ops W Q l a:=by
 intro l
 induction l with
 | nil=>intro a h;exact h
 | cons o rest ih=>
  intro a h
  unfold wpQuiet at h
  unfold wpStill
  split
  ·rename_i hw
   rw [if_pos hw] at h
   obtain ⟨v,h1,h2⟩:=h
   have h3:=h1 W rfl
   unfold Oper.quietAt at h3
   unfold Oper.still
   cases hr:(execOp a.eval o).run P W with
   | ok n w'=>
    rw [hr] at h3
    cases n with
    | value u=>
     obtain ⟨e1,e2⟩:=h3
     subst e2
     exact ⟨e1,ih _ h2⟩
    | skip=>
     obtain ⟨e1,e2⟩:=h3
     subst e2
     exact ⟨e1,ih _ h2⟩
    | enter f args=>
     obtain ⟨e1,e2⟩:=h3
     exact ⟨e1,v,e2,ih _ h2⟩
    | _=>exact h3.elim
   | _=>rw [hr] at h3;exact h3.elim
  ·rename_i hw
   rw [if_neg hw] at h
   exact ih _ h
theorem wp_quietV {P:Program} {id:Nat} {Q:Exit→Act→World→Prop} {a:Act} {w:World} {l:List Oper} (n:Nat) (hm:P.follows .mixedOrders=true) (hB:Region.lexTailB .any l.toArray n=true)
  (h:wpQuiet P l.toArray (fun w'=>w' = w.drew) (fun a'=>wpList P l.toArray Q (l.drop n) a' w.drew) (l.take n) a):(Code.region id l.toArray true).wp P Q a w:=
 wp_region_still_tail n hm hB (still_quietV _ _ h)
def ST.trues (S:ST) (f:Int) (k:Nat):List Nat:=(asgs k 0).filter fun y=>S.den f (asg (y:Nat))
theorem trues_tl {S:ST} (hw:WF S) (hid:Idn S) {f:Int} {k:Nat} (hf:S.ok f) (hh:Hk k S f) (hk:k≤S.n):S.tl k 0 f 0=S.trues f k:=by
 rw [tl_spec hw hid k 0 f 0 hf (by have:=(lev_range hw hf).1;simpa using this) (by rwa [Nat.zero_add]) (by omega)]
 simp [ST.trues]
theorem run_head (b k c n:Nat) (hc:k≤c) (h0:c≠0) (w:World):(Instr.slice 40 (.slice (some ⟨b,0,none⟩) n c) none (some (.int .i64 (k:Int))) none).run Tryz.prog w=.ok (.slice (some ⟨b,0,none⟩) k c) w:=by
 rw [run_slice_h (P:=Tryz.prog) w 40 _ _ _ (by kernel_rfl) .i64 k (by omega) (by omega)]
 simp [go_sem,sliced,h0,Addr.add]
theorem trues_iter {w:World} {B:SB} {S:ST} (hS0:StoreAt w B S) (hw:WF S) (hid:Idn S) (ho:∀ i:Nat,i<S.n→S.order[i]?=some (i:Int)) (n12:S.n=12) (hco:12≤B.co) (ps pf pv:Nat) (f:Int) (k:Nat) (hps0:CellsAt w ps #[.pointer (some ⟨B.b,0,none⟩)]) (hpf0:CellsAt w pf #[.int .i64 f]) (hpv0:CellsAt w pv #[.int .i64 (k:Int)])
  (hf:S.ok f) (hh:Hk k S f) (hk:k≤9) (T:List Nat) (hT:∀ t∈T,t<w.heap.size∧t∉B.own) :
  Iter 153 #[.pointer (some ⟨ps,0,none⟩),.pointer (some ⟨pf,0,none⟩),.pointer (some ⟨pv,0,none⟩)] eA (fun pre x=>(pre++[x]) <+: S.trues f k) (fun xs=>xs=S.trues f k) T w:=by
 intro n l J W hl hlW hb hJ hY h0
 have hS:=hS0.of_heap (w':=W) (fun i hi=>hb.block i (hS0.lt i hi))
 have hps:=hps0.of_heap (w':=W) (hb.block ps hps0.lt)
 have hpf:=hpf0.of_heap (w':=W) (hb.block pf hpf0.lt)
 have hpv:=hpv0.of_heap (w':=W) (hb.block pv hpv0.lt)
 have q0:=hps.cell 0
 have q1:=hpf.cell 0
 have q2:=hpv.cell 0
 have q3:=hS.head.cell 0
 simp at q0 q1 q2 q3
 have e:=trues_tl hw hid hf hh (by omega:k≤S.n)
 have hsl:=run_head B.bo k B.co S.order.length (by omega) (by omega)
 have hlT:∀ i∈B.own,i∉l :: T:=fun i hi x=>by
  rcases List.mem_cons.1 x with e | x
  ·have:=hS0.lt i hi;omega
  ·exact (hT _ x).2 hi
 have hts:=hide (fun W1 (hk1:Keeps [] W W1)=>tell_says (B:=B) (S:=S) (l:=l) (J:=J) (T:=T) (L:=S.trues f k) (z:=W.heap.size) hw hid ho hJ hlT (fun m pre x W1 h1 h2=>yieldAt_wide (hY pre x W1 h1 h2)) k 0 f 0 B.co [] W1 (by omega) (by omega) (by omega) (by decide) hf (by have:=(lev_range hw hf).1;simpa using this) (by rw [e];simp) (hS.keeps hk1 (by simp)) hk1.size (hJ _ _ _ h0 (hk1.below (Nat.le_refl _) (by simp))))
 have He:=hide e
 clear hY hJ e
 refine callsIn_wide.2 ?_
 simp only [List.append_toArray,List.cons_append,List.nil_append]
 go_enter Tryz.func153,Tryz.ntmps153
 go_wp2_with fail
 refine wp_quietV 9 (by kernel_rfl) (by kernel_rfl) ?_
 simp only [List.take_succ_cons,List.take_zero,List.drop_succ_cons,List.drop_zero]
 repeat (go_big_quiet_step (fail))
 refine wpQuiet_nil ?_
 go_wp2_with fail
 refine (hts.out _ (Keeps.drew [] W)).mono ?_
 rintro e W1 ⟨rfl,h1,k1⟩
 go_wp2_with fail
 go_end0
 exact ⟨⟨_,rfl⟩,_,He.out,h1,(Keeps.drew (l :: T) W).trans k1⟩
end
section
open Go.RowKit
theorem sizeE_alloc (w:World) (o:Obj):(w.alloc o).heap.size=w.heap.size+1:=by simp
theorem ownE_len {w:World} {base:Nat} {e:TypeId} {size:Nat} {v:Value} {n:Nat} {xs:List Value} (h:w.ownsRow base e size v n xs):∃ a c,v=.slice a n c:=by
 rcases h.2 with ⟨rfl,rfl⟩ | ⟨g,cap,cur,e,_⟩
 ·exact ⟨_,_,rfl⟩
 ·exact ⟨_,_,e⟩
theorem ownE_cell {w:World} {base:Nat} {e:TypeId} {size g n c:Nat} {xs:List Value} (h:w.ownsRow base e size (.slice (some ⟨g,0,none⟩) n c) n xs) {i:Nat} {x:Value} (hx:xs[i]?=some x):w.cell? ⟨g,i,none⟩=some x:=by
 have:=World.ownsRow.cells h (g:=g) rfl i x hx
 rw [Addr.add_lit,Nat.zero_add] at this
 exact this
theorem ownE_base {w:World} {base:Nat} {e:TypeId} {size n:Nat} {v:Value} {xs:List Value} (h:w.ownsRow base e size v n xs):∀ i,v.ownBlock=some i→base≤i∧∃ cs t,w.heap[i]?=some (.cells cs t (0,0)):=by
 intro i hi
 obtain ⟨_,⟨rfl,_⟩ | ⟨g,cap,cur,rfl,hb,hg,_⟩⟩:=h
 ·simp [Value.ownBlock] at hi
 ·simp only [Value.ownBlock,Option.some.injEq] at hi
  subst hi
  exact ⟨hb,_,_,hg⟩
end
end Go.Proofs.YtgjomknpjigkhaaGreatDoor
