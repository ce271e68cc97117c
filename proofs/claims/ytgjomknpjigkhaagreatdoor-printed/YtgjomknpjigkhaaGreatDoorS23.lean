import Derived.Test.YtgjomknpjigkhaaGreatDoorS22
import Derived.Laws.CopyOwn
namespace Go.Proofs.YtgjomknpjigkhaaGreatDoor
set_option maxRecDepth 100000
set_option maxHeartbeats 4000000
section
open Go.RowKit
theorem mul64_lit (w:World) (n:Nat) (hn:n≤6):Calls Tryz.prog 300 #[.int .u64 1,.int .u64 (n:Int)] w fun e w'=>e=.returned (.tuple #[.int .u64 0,.int .u64 (n:Int)])∧w' = w:=by
 have e1:bits BinOp.and IntKind.u64 1 4294967295=1:=by decide
 have h:n=0∨n=1∨n=2∨n=3∨n=4∨n=5∨n=6:=by omega
 have e2:bits BinOp.and IntKind.u64 (n:Int) 4294967295=n:=by rcases h with rfl | rfl | rfl | rfl | rfl | rfl | rfl <;> decide
 have e3:bits BinOp.and IntKind.u64 0 4294967295=0:=by decide
 have e4:(n:Int) / 4294967296=0:=by omega
 have e5:IntKind.u64.wrap 0=0:=by decide
 clear h
 go_enter Tryz.func300,Tryz.ntmps300
 go_wp2
 go_ret2
 exact ⟨rfl,rfl⟩
theorem mul_lit (w:World) (n:Nat) (hn:n≤6):Calls Tryz.prog 291 #[.int .u64 1,.int .u64 (n:Int)] w fun e w'=>e=.returned (.tuple #[.int .u64 0,.int .u64 (n:Int)])∧w' = w:=by
 have hm:=hide (mul64_lit w n hn)
 go_enter Tryz.func291,Tryz.ntmps291
 go_wp2_with fail
 refine hm.out.mono ?_
 rintro e w' ⟨rfl,rfl⟩
 go_wp2_with fail
 go_ret2
 exact ⟨rfl,rfl⟩
theorem splice_same {n off m:Nat} (z:Value) (h:off+m≤n):splice (List.replicate n z) off (List.replicate m z)=List.replicate n z:=by
 unfold splice
 rw [List.take_replicate,List.drop_replicate,List.length_replicate,List.replicate_append_replicate,List.replicate_append_replicate]
 congr 1
 omega
theorem run_tailK (b k n:Nat) (h:k<n) (w:World):(Instr.slice 40 (.slice (some ⟨b,0,none⟩) n n) (some (.int .i64 (k:Int))) none none).run Tryz.prog w=.ok (.slice (some ⟨b,k,none⟩) (n - k) (n - k)) w:=by
 rw [run_slice_l (P:=Tryz.prog) w 40 _ _ _ (by kernel_rfl) .i64 k (by omega) (by omega)]
 have:¬ n=k:=by omega
 simp [go_sem,sliced,this,Addr.add]
 intro h;exact h.symm
theorem made_rep (n:Nat):madeCells #[.int .i64 0] n=(List.replicate n (Value.int .i64 0)).toArray:=by
 have:=toList_madeCells_one (.int .i64 0) n
 rw [←this]
def RepTo (w:World) (n:Nat) (e:Ending) (w':World):Prop:=∃ g c,e=.returned (.slice (some ⟨g,0,none⟩) n c)∧w.heap.size≤g∧RowIs w' g (List.replicate n 0)∧Keeps [] w w'
theorem repeat_calls {w:World} {gx cx n:Nat} (hx:w.cell? ⟨gx,0,none⟩=some (.int .i64 0)) (hgx:gx<w.heap.size) (hn:n≤6):Calls Tryz.prog 263 #[.slice (some ⟨gx,0,none⟩) 1 cx,.int .i64 (n:Int)] w (RepTo w n):=by
 have hm:=hide (mul_lit w n hn)
 have hmk:=run_makeE w n (by omega)
 rw [made_rep] at hmk
 have hsz:(Tryz.prog.info? 3).map (·.size)=some 1:=by kernel_rfl
 have hblk:(w.alloc (.cells (List.replicate n (Value.int .i64 0)).toArray 3)).heap[w.heap.size]?=some (.cells (List.replicate n (Value.int .i64 0)).toArray 3 (0,0)):=World.alloc_heap_new w _
 have hbel:Go.RowKit.Below w.heap.size w (w.alloc (.cells (List.replicate n (Value.int .i64 0)).toArray 3)):=(Keeps.alloc [] w _).below (Nat.le_refl _) (by simp)
 have hsrc:∀ j v,(List.replicate (Nat.min 1 n) (Value.int .i64 0))[j]?=some v→(w.alloc (.cells (List.replicate n (Value.int .i64 0)).toArray 3)).cell? ((⟨gx,0,none⟩:Addr).add j)=some v:=fun j v hj=>by
  rw [List.getElem?_replicate] at hj
  split at hj
  ·rename_i hlt
   cases hj
   have e:j=0:=by have:Nat.min 1 n≤1:=Nat.min_le_left _ _;omega
   subst e
   rw [Addr.add_lit,cell_kept (Keeps.alloc [] w _) hgx (by simp)]
   exact hx
  ·cases hj
 have hone:∀ m,∀ v∈List.replicate m (Value.int .i64 0),v.oneCell' = true:=fun m v hv=>by rw [List.eq_of_mem_replicate hv];rfl
 have Hm1:Hid (Nat.min 1 n≤n∧Nat.min 1 n≤1∧(1≤n→Nat.min 1 n=1)):=⟨Nat.min_le_right _ _,Nat.min_le_left _ _,fun h=>Nat.min_eq_left h⟩
 generalize hmm:Nat.min 1 n=m1 at hsrc Hm1
 have Hmm:=hide hmm
 clear hmm
 go_enter Tryz.func263,Tryz.ntmps263
 go_wp2_with fail
 refine hm.out.mono ?_
 rintro e w' ⟨rfl,rfl⟩
 rename World=>w
 generalize hW:w.alloc (.cells (List.replicate n (Value.int .i64 0)).toArray 3)=W at *
 go_wp2_with (refine wpList_copy_splice rfl _ _ 40 40 rfl 3 Tryz.underlying40 hsz (some ⟨w.heap.size,0,none⟩) (some ⟨gx,0,none⟩) n n 1 cx rfl rfl w.heap.size 0 (List.replicate n (Value.int .i64 0)) 3 hblk (List.replicate m1 (Value.int .i64 0)) (by rw [List.length_replicate,Hmm.out]) (fun _=>⟨rfl,_,rfl,hsrc⟩) (by rw [List.length_replicate,List.length_replicate];have:=Hm1.out;omega) (hone _) w.heap.size w hbel (Nat.le_refl _) ?_)
 intro W1 hb1 hl1
 rw [splice_same _ (by have:=Hm1.out;omega)] at hb1
 have hb1':Hid (W1.heap[w.heap.size]?=some (.cells (List.replicate n (Value.int .i64 0)).toArray 3 (0,0))):=hb1
 clear hb1 hsrc hbel hblk hmk hW hm hx
 go_wp2_with fail
 go_loopw [8] (fun x wr=>∃ k:Nat,x=.int .i64 k∧k≤n∧(1≤n→1≤k)∧Hid (wr.heap[w.heap.size]?=some (.cells (List.replicate n (Value.int .i64 0)).toArray 3 (0,0)))∧Go.RowKit.Below w.heap.size w wr) (fun x _=>((n:Int) - intOf x).toNat)
 case atStart=>exact ⟨m1,rfl,by have:=Hm1.out;omega,by have:=Hm1.out;omega,hb1',hl1⟩
 case round=>
  obtain ⟨k,rfl,hkn,hk1,hbr,hlr⟩:=hrel
  by_cases hlt:k<n
  ·have hltI:(k:Int)<n:=by omega
   have ht:=run_tailK w.heap.size k n hlt
   have hh:=run_head w.heap.size k n n (by omega) (by omega)
   have hks:=hk1 (by omega)
   have hsrc:∀ j v,(List.replicate (Nat.min k (n - k)) (Value.int .i64 0))[j]?=some v→wr.cell? ((⟨w.heap.size,0,none⟩:Addr).add j)=some v:=fun j v hj=>by
    have hc:CellsAt wr w.heap.size (List.replicate n (Value.int .i64 0)).toArray:=⟨_,hbr.out⟩
    rw [List.getElem?_replicate] at hj
    split at hj
    ·rename_i hj'
     cases hj
     have:Nat.min k (n - k)≤k:=Nat.min_le_left _ _
     rw [Addr.add_lit,hc.cell,List.getElem?_toArray,List.getElem?_replicate,if_pos (by omega)]
    ·cases hj
   have Hm2:Hid (Nat.min k (n - k)≤n - k∧1≤Nat.min k (n - k)):=⟨Nat.min_le_right _ _,Nat.le_min.2 ⟨hks,by omega⟩⟩
   generalize hmm:Nat.min k (n - k)=m2 at hsrc Hm2
   have Hmm2:=hide hmm
   have Hk1:=hide hk1
   clear hmm hk1 hks
   obtain ⟨W2,hrun,hb2,hl2⟩:∃ W2,(∀ ty,(Builtin.copy_ #[40,40] ty #[.slice (some ⟨w.heap.size,k,none⟩) (n - k) (n - k),.slice (some ⟨w.heap.size,0,none⟩) k n]).run Tryz.prog wr.drew=.ok (.int .i64 (m2:Int)) W2)∧Hid (W2.heap[w.heap.size]?=some (.cells (List.replicate n (Value.int .i64 0)).toArray 3 (0,0)))∧Go.RowKit.Below w.heap.size w W2:=by
    have hr0:=fun ty=>run_copy_row (P:=Tryz.prog) wr.drew 40 40 ty 3 w.heap.size k (n - k) (n - k) ⟨w.heap.size,0,none⟩ k n (List.replicate n (Value.int .i64 0)).toArray 3 (List.replicate m2 (Value.int .i64 0)) Tryz.underlying40 hsz hbr.out (by rw [List.length_replicate,Hmm2.out]) hsrc (by simp;have:=Hm2.out;omega) (hone _)
    have erow:(List.replicate n (Value.int .i64 0)).toArray.toList.take k++List.replicate m2 (Value.int .i64 0)++(List.replicate n (Value.int .i64 0)).toArray.toList.drop (k+(List.replicate m2 (Value.int .i64 0)).length)=List.replicate n (Value.int .i64 0):=by
     have:=Hm2.out
     simp only [List.take_replicate,List.drop_replicate,List.length_replicate,List.replicate_append_replicate]
     congr 1
     omega
    exact ⟨wr.drew.setRow w.heap.size (List.replicate n (Value.int .i64 0)).toArray,fun ty=>by rw [hr0 ty,erow,List.length_replicate];rfl,setRow_heap wr.drew w.heap.size _ _ 3 _ hbr.out,below_setRow (hlr.trans ((Keeps.drew [] wr).below hlr.size (by simp))) (Nat.le_refl _) _⟩
   have hm6:(m2:Int)≤6:=by have:=Hm2.out;omega
   obtain ⟨km,hkm⟩:∃ km,k+m2=km:=⟨_,rfl⟩
   have hwr:IntKind.i64.wrap ((k:Int)+(m2:Int))=(km:Int):=by rw [IntKind.wrap_i64];omega
   have Hkm:=hide hkm
   have h0:=hbr.out
   clear hkm hm6 hsrc hbr hlr h0
   go_wp2_with fail
   go_region_held3 (fun _=>True) (exact trivial) (fail)
   all_goals
    go_wp2_with fail
    go_roundw
    ·exact ⟨km,rfl,by have:=Hm2.out;have:=Hkm.out;omega,fun h=>by have:=Hm2.out;have:=Hkm.out;omega,hb2,hl2⟩
    ·simp only [intOf];have:=Hm2.out;have:=Hkm.out;omega
  ·have hltI:¬ (k:Int)<n:=by omega
   have e:k=n:=by omega
   subst e
   go_wp2_with fail
   go_ret
   refine ⟨w.heap.size,k,rfl,Nat.le_refl _,⟨(List.replicate k (Value.int .i64 0)).toArray,⟨3,hbr.out⟩,fun i x hx=>?_⟩,⟨hlr.os,hlr.tape,hlr.output,hlr.size,fun i hi _=>hlr.block i hi⟩⟩
   rw [List.getElem?_replicate] at hx
   split at hx
   ·rename_i hi
    cases hx
    rw [List.getElem?_toArray,List.getElem?_replicate,if_pos hi]
   ·cases hx
end
section
open Go.RowKit
structure CluX where
 c:ClauseM
 gt:Nat
 tc:Nat
 la:Option Addr
 lc:Nat
 lt:List (Nat×Nat)
structure LitAtE (w:World) (gl k:Nat) (l:AtomM×Bool) (g c:Nat):Prop where
 rel:w.cell? ⟨gl,k * 3,none⟩=some (.int .i64 (l.1.rel:Int))
 tms:w.cell? ⟨gl,k * 3+1,none⟩=some (.slice (some ⟨g,0,none⟩) l.1.terms.length c)
 no:w.cell? ⟨gl,k * 3+2,none⟩=some (.bool l.2)
 row:TmRow w g l.1.terms
structure CluAt (w:World) (X:List Nat) (u:CluX):Prop where
 head:TmRow w u.gt u.c.head.terms
 headX:u.gt∉X
 lits:∀ (k:Nat) (l:AtomM×Bool),u.c.lits[k]?=some l→∃ gl g c,u.la=some ⟨gl,0,none⟩∧gl<w.heap.size∧gl∉X∧g∉X∧LitAtE w gl k l g c
theorem LitAtE.keeps {w w':World} {gl k g c:Nat} {l:AtomM×Bool} {T:List Nat} (h:LitAtE w gl k l g c) (kp:Keeps T w w') (hl:gl<w.heap.size) (h1:gl∉T) (h2:g∉T):LitAtE w' gl k l g c:=
 ⟨by rw [cell_kept kp hl h1];exact h.rel,by rw [cell_kept kp hl h1];exact h.tms,by rw [cell_kept kp hl h1];exact h.no,h.row.keeps kp h2⟩
theorem CluAt.keeps {w w':World} {X T:List Nat} {u:CluX} (h:CluAt w X u) (k:Keeps T w w') (hT:∀ j∈T,j∈X∨w.heap.size≤j):CluAt w' X u:=by
 have ne:∀ {j},j∉X→j<w.heap.size→j∉T:=fun h1 h2 hm=>(hT _ hm).elim h1 (fun q=>by omega)
 refine ⟨h.head.keeps k (ne h.headX h.head.1),h.headX,fun i l hi=>?_⟩
 obtain ⟨gl,g,c,h1,h2,h3,h4,h5⟩:=h.lits i l hi
 exact ⟨gl,g,c,h1,Nat.lt_of_lt_of_le h2 k.size,h3,h4,h5.keeps k h2 (ne h3 h2) (ne h4 h5.row.1)⟩
theorem CluAt.apart {w:World} {X Y:List Nat} {u:CluX} (h:CluAt w X u) (hY:∀ j∈Y,j∈X∨w.heap.size≤j):CluAt w Y u:=by
 have ne:∀ {j},j∉X→j<w.heap.size→j∉Y:=fun h1 h2 hm=>(hY _ hm).elim h1 (fun q=>by omega)
 refine ⟨h.head,ne h.headX h.head.1,fun i l hi=>?_⟩
 obtain ⟨gl,g,c,h1,h2,h3,h4,h5⟩:=h.lits i l hi
 exact ⟨gl,g,c,h1,h2,ne h3 h2,ne h4 h5.row.1,h5⟩
structure AtOk (rs:List RelX) (a:AtomM):Prop where
 rel:∃ r,rs[a.rel]?=some r∧a.terms.length=r.n∧0<r.n
 tms:∀ t∈a.terms,TmOk t
structure ClOk (rs:List RelX) (c:ClauseM):Prop where
 head:AtOk rs c.head
 lits:∀ l∈c.lits,AtOk rs l.1
 few:c.lits.length≤4
theorem AtOk.like {rs rs':List RelX} {a:AtomM} (h:AtOk rs a) (k:LikeRs rs rs'):AtOk rs' a:=by
 obtain ⟨r,h1,h2,h3⟩:=h.rel
 obtain ⟨r',e1,e2⟩:=k.2 _ r h1
 exact ⟨⟨r',e1,by rw [h2,e2.n],by rw [e2.n];exact h3⟩,h.tms⟩
theorem ClOk.like {rs rs':List RelX} {c:ClauseM} (h:ClOk rs c) (k:LikeRs rs rs'):ClOk rs' c:=⟨h.head.like k,fun l hl=>(h.lits l hl).like k,h.few⟩
structure RuX extends CluX where
 gh:Nat
 ch:Nat
 hs:List Int
structure RuC (cs:Array Value) (o:Nat) (u:RuX):Prop where
 c0:cs[o]?=some (.int .i64 (u.c.head.rel:Int))
 c1:cs[o+1]?=some (.slice (some ⟨u.gt,0,none⟩) u.c.head.terms.length u.tc)
 c2:cs[o+2]?=some (.slice u.la u.c.lits.length u.lc)
 c3:cs[o+3]?=some (.slice (some ⟨u.gh,0,none⟩) u.hs.length u.ch)
structure RusAt (w:World) (X:List Nat) (gu:Nat) (us:List RuX):Prop where
 cells:0<us.length→∃ cs,CellsAt w gu cs∧∀ (i:Nat) (u:RuX),us[i]?=some u→RuC cs (i * 4) u
 guX:0<us.length→gu∉X∧∀ u∈us,gu≠u.gh
 clu:∀ u∈us,CluAt w (us.map (·.gh)++X) u.toCluX
 hld:∀ u∈us,RowIs w u.gh u.hs∧u.gh∉X∧u.hs.length=u.c.lits.length
 nodup:(us.map (·.gh)).Nodup
theorem RusAt.keeps {w w':World} {X T:List Nat} {gu:Nat} {us:List RuX} (h:RusAt w X gu us) (k:Keeps T w w') (hT:∀ j∈T,j∈X∨w.heap.size≤j):RusAt w' X gu us:=by
 have ne:∀ {j},j∉X→j<w.heap.size→j∉T:=fun h1 h2 hm=>(hT _ hm).elim h1 (fun q=>by omega)
 refine ⟨fun h0=>?_,h.guX,fun u hu=>(h.clu u hu).keeps k (fun j hj=>(hT j hj).imp (fun q=>List.mem_append.2 (.inr q)) id),fun u hu=>?_,h.nodup⟩
 ·obtain ⟨cs,h1,h2⟩:=h.cells h0
  exact ⟨cs,h1.keeps k (ne (h.guX h0).1 h1.lt),h2⟩
 ·obtain ⟨h1,h2,h3⟩:=h.hld u hu
  exact ⟨h1.keepsE k (ne h2 h1.lt),h2,h3⟩
theorem RusAt.apart {w:World} {X Y:List Nat} {gu:Nat} {us:List RuX} (h:RusAt w X gu us) (hY:∀ j∈Y,j∈X∨w.heap.size≤j):RusAt w Y gu us:=by
 have ne:∀ {j},j∉X→j<w.heap.size→j∉Y:=fun h1 h2 hm=>(hY _ hm).elim h1 (fun q=>by omega)
 refine ⟨h.cells,fun h0=>⟨?_,(h.guX h0).2⟩,fun u hu=>(h.clu u hu).apart (fun j hj=>?_),fun u hu=>?_,h.nodup⟩
 ·obtain ⟨cs,h1,h2⟩:=h.cells h0
  exact ne (h.guX h0).1 h1.lt
 ·rcases List.mem_append.1 hj with q | q
  ·exact .inl (List.mem_append.2 (.inl q))
  ·exact (hY j q).imp (fun q=>List.mem_append.2 (.inr q)) id
 ·obtain ⟨h1,h2,h3⟩:=h.hld u hu
  exact ⟨h1,ne h2 h1.lt,h3⟩
def HolS (S:ST) (us:List RuX) (HS:Nat→List (List Nat→Prop)):Prop:=∀ (i:Nat) (u:RuX),us[i]?=some u→HldS S u.hs (HS i)
theorem HolS.ext {S S':ST} {us:List RuX} {HS:Nat→List (List Nat→Prop)} (h:HolS S us HS) (x:Ext S S') (hw:WF S) (hw':WF S'):HolS S' us HS:=fun i u hi=>(h i u hi).ext x hw hw'
def bringsTo (us:List RuX) (HS:Nat→List (List Nat→Prop)) (j i:Nat) (l:List Nat):Prop:=∃ p u,p<j∧us[p]?=some u∧u.c.head.rel=i∧brings u.c.head.terms (fun ν=>allH (HS p) u.hs.length ν) l
theorem FndS.iff {S:ST} {rs:List RelX} {fs:List Int} {Xs Ys:Nat→List Nat→Prop} (h:FndS S rs fs Xs) (hi:∀ i l,Xs i l↔Ys i l):FndS S rs fs Ys:=⟨h.1,fun i r f h1 h2=>(h.2 i r f h1 h2).iff fun l _=>hi i l⟩
theorem bringsTo_step {us:List RuX} {HS:Nat→List (List Nat→Prop)} {j:Nat} {u:RuX} (hu:us[j]?=some u) (i:Nat) (l:List Nat):upX (bringsTo us HS j) u.c.head.rel (brings u.c.head.terms (fun ν=>True∧allH (HS j) u.hs.length ν)) i l↔bringsTo us HS (j+1) i l:=by
 unfold upX
 have hb:brings u.c.head.terms (fun ν=>True∧allH (HS j) u.hs.length ν) l↔brings u.c.head.terms (fun ν=>allH (HS j) u.hs.length ν) l:=by unfold brings;simp
 constructor
 ·split
  ·rename_i e
   subst e
   rintro (⟨p,v,h1,h2,h3,h4⟩ | h)
   ·exact ⟨p,v,by omega,h2,h3,h4⟩
   ·exact ⟨j,u,by omega,hu,rfl,hb.1 h⟩
  ·rintro ⟨p,v,h1,h2,h3,h4⟩
   exact ⟨p,v,by omega,h2,h3,h4⟩
 ·rintro ⟨p,v,h1,h2,h3,h4⟩
  by_cases e:p<j
  ·split
   ·rename_i e2;subst e2;exact .inl ⟨p,v,e,h2,h3,h4⟩
   ·exact ⟨p,v,e,h2,h3,h4⟩
  ·have:p=j:=by omega
   subst this
   rw [hu] at h2
   cases h2
   rw [if_pos h3.symm]
   exact .inr (hb.2 h4)
end
section
open Go.RowKit
theorem Bse.fresh {w w':World} {bb gr cr:Nat} {B:SB} {S S':ST} {rs:List RelX} {x0 x1 x3:Value} {T:List Nat} (h:Bse w bb B S gr cr rs x0 x1 x3) (k:Keeps T w w') (hT:∀ j∈T,j∈B.own∨w.heap.size≤j) (hE:EngS w' B S'):Bse w' bb B S' gr cr rs x0 x1 x3:=by
 have ne:∀ {j},j∉B.own→j<w.heap.size→j∉T:=fun h1 h2 hm=>(hT _ hm).elim h1 (fun q=>by omega)
 obtain ⟨cs,h1,h2⟩:=h.rel
 exact ⟨h.cells.keeps k (ne h.bbB h.cells.lt),hE,⟨cs,h1.keeps k (ne h.grB h1.lt),h2⟩,fun r hr=>(h.maps r hr).kept k (ne (h.rmB r hr) (h.maps r hr).lt),h.bbB,h.grB,h.rmB,h.bbgr,h.bbrm,h.grrm,h.nodup,h.few,h.cols⟩
theorem own_ftp {B:SB} {gr:Nat} {rs:List RelX} {j:Nat} (h:j∈B.own):j∈ftp B gr rs:=by simp [ftp,h]
def FndTo (B:SB) (rs:List RelX) (w:World) (S:ST) (Xs:Nat→List Nat→Prop) (c:Int) (e:Ending) (w':World):Prop:=
 ∃ g cf fs S',e=.returned (.slice (some ⟨g,0,none⟩) rs.length cf)∧w.heap.size≤g∧RowIs w' g fs∧EngS w' B S'∧Keeps B.own w w'∧Ext S S'∧S'.next≤S.next+c∧FndS S' rs fs Xs
theorem firstR_calls {w:World} {bb gr cr:Nat} {B:SB} {S:ST} {rs:List RelX} {x0 x1 x3:Value} (h:Bse w bb B S gr cr rs x0 x1 x3) {Fs:Nat→List Nat→Prop} {rks:Nat→List Nat→Option Nat} (ha:AllS S rs Fs rks) {gu uc:Nat} {ua:Option Addr} {us:List RuX} (hua:0<us.length→ua=some ⟨gu,0,none⟩) (hu:RusAt w (ftp B gr rs) gu us) (hok:∀ u∈us,ClOk rs u.c) {HS:Nat→List (List Nat→Prop)} (hH:HolS S us HS) (h52:us.length≤52) (hl:S.next+1760000000<lim) :
  Calls Tryz.prog 217 #[.pointer (some ⟨bb,0,none⟩),.slice ua us.length uc] w (FndTo B rs w S (outX (bringsTo us HS us.length) rks rs.length) 1760000000):=by
 have h6:=h.few
 have kA:=Keeps.alloc [] w (.cells #[.int .i64 0] 3)
 have hA:=CellsAt.new w #[.int .i64 0] 3
 have zA:=sizeE_alloc w (.cells #[.int .i64 0] 3)
 have hbA:=h.keeps0 kA
 have c2:=hbA.cells.cell 2
 simp at c2
 have hA0:(w.alloc (.cells #[.int .i64 0] 3)).cell? ⟨w.heap.size,0,none⟩=some (.int .i64 0):=by rw [hA.cell];rfl
 have hrep:=hide (repeat_calls (cx:=1) (n:=rs.length) hA0 (by omega) h6)
 have Hl:=hide hl
 clear hl hA0
 generalize hWA:w.alloc (.cells #[.int .i64 0] 3)=WA at *
 go_enter Tryz.func217,Tryz.ntmps217
 go_wp2_with fail
 refine hrep.out.mono ?_
 rintro e W1 ⟨g,cf,rfl,hg,hrow,k1⟩
 have hg':w.heap.size≤g:=by omega
 have k01:=kA.trans k1
 have Hk01:=hide k01
 have hE1:=h.eng.keeps0 k01
 have hz0:FndS S rs (List.replicate rs.length 0) (bringsTo us HS 0):=⟨by simp,fun i r f h1 h2=>by
  rw [List.getElem?_replicate] at h2
  split at h2
  ·cases h2
   exact ⟨ok_zero S,fun σ=>⟨fun q=>absurd q (by simp [den_zero]),fun ⟨p,u,hp,_⟩=>absurd hp (by omega)⟩⟩
  ·cases h2⟩
 clear hWA c2 hbA hrep hA zA kA k1 k01
 go_wp2_with fail
 go_loopw [17] (fun y wr=>∃ (j:Nat) (fs:List Int) (S1:ST),y=.int .i64 j∧j≤us.length∧EngS wr B S1∧RowIs wr g fs∧Keeps (g :: B.own) w wr∧Ext S S1∧S1.next≤S.next+33800000 * j∧FndS S1 rs fs (bringsTo us HS j)) (fun y _=>((us.length:Int) - intOf y).toNat)
 case atStart=>exact ⟨0,_,S,rfl,by omega,hE1,hrow,Hk01.out.mono (by simp),Ext.refl S,by omega,hz0⟩
 case round=>
  obtain ⟨j,fs,S1,rfl,hj,hE,hr,hk,hx,hn,hf⟩:=hrel
  have Hn:=hide hn
  clear hn hrow hE1 hz0
  have hkT:∀ j∈g :: B.own,j∈B.own∨w.heap.size≤j:=fun j hj=>by
   rcases List.mem_cons.1 hj with rfl | hj
   ·exact .inr hg'
   ·exact .inl hj
  have hbr:=h.fresh hk hkT hE
  have hgB:g∉B.own:=h.eng.sat.fresh hg'
  have hgb:g≠bb:=by have:=h.cells.lt;omega
  by_cases hjl:j<us.length
  ·have hjI:(j:Int)<us.length:=by omega
   obtain ⟨u,huj⟩:∃ u,us[j]?=some u:=⟨_,List.getElem?_eq_getElem hjl⟩
   have hum:=List.mem_of_getElem? huj
   have hur:=hu.keeps hk (fun j hj=>(hkT j hj).imp own_ftp id)
   obtain ⟨cs,hc,hcs⟩:=hur.cells (by omega)
   have hc4:=hcs j u huj
   have q0:wr.cell? ⟨gu,j * 4,none⟩=some (.int .i64 (u.c.head.rel:Int)):=by rw [hc.cell];exact hc4.c0
   have q1:wr.cell? ⟨gu,j * 4+1,none⟩=some (.slice (some ⟨u.gt,0,none⟩) u.c.head.terms.length u.tc):=by rw [hc.cell];exact hc4.c1
   have q2:wr.cell? ⟨gu,j * 4+2,none⟩=some (.slice u.la u.c.lits.length u.lc):=by rw [hc.cell];exact hc4.c2
   have q3:wr.cell? ⟨gu,j * 4+3,none⟩=some (.slice (some ⟨u.gh,0,none⟩) u.hs.length u.ch):=by rw [hc.cell];exact hc4.c3
   have hclu:=hur.clu u hum
   obtain ⟨hhr,hhX,hhl⟩:=hur.hld u hum
   have hcok:=hok u hum
   obtain ⟨r,hr1,hr2,_⟩:=hcok.head.rel
   have hgtX:u.gt∉g :: B.own:=not_cons (by have:=(hu.clu u hum).head.1;omega) (fun q=>hclu.headX (List.mem_append.2 (.inr (own_ftp q))))
   have hghX:u.gh∉g :: B.own:=not_cons (by have:=(hu.hld u hum).1.lt;omega) (fun q=>hhX (own_ftp q))
   have kC:=Keeps.alloc [] wr (.cells #[.int .i64 (u.c.head.rel:Int),.slice (some ⟨u.gt,0,none⟩) u.c.head.terms.length u.tc,.slice u.la u.c.lits.length u.lc,.slice (some ⟨u.gh,0,none⟩) u.hs.length u.ch] 295)
   have hC:=CellsAt.new wr #[.int .i64 (u.c.head.rel:Int),.slice (some ⟨u.gt,0,none⟩) u.c.head.terms.length u.tc,.slice u.la u.c.lits.length u.lc,.slice (some ⟨u.gh,0,none⟩) u.hs.length u.ch] 295
   have hfd:=hide (find_calls (cf:=cf) (tc:=u.tc) (la:=u.la) (ln:=u.c.lits.length) (lc:=u.lc) (ch:=u.ch) (hbr.keeps0 kC) (hr.keepsE kC (by simp)) hgB hgb hf (hclu.head.keeps kC (by simp)) hgtX hcok.head.tms hr1 hr2 (hhr.keepsE kC (by simp)) hghX ((hH j u huj).ext hx h.eng.wf hE.wf) (by rw [hhl];exact hcok.few) (f:=1) (Φ:=fun _=>True) ⟨ok_one S1,fun σ=>by simp [den_one]⟩ (by have:=Hl.out;have:=Hn.out;omega))
   simp only [ruV,hf.1] at hfd
   have Hst:=hide (bringsTo_step (HS:=HS) huj)
   have hua':=hua (by omega)
   clear hcs hc4 hc hclu hhr hhX hhl hcok hr1 hr2 hgtX hghX hur
   generalize hWC:wr.alloc (.cells #[.int .i64 (u.c.head.rel:Int),.slice (some ⟨u.gt,0,none⟩) u.c.head.terms.length u.tc,.slice u.la u.c.lits.length u.lc,.slice (some ⟨u.gh,0,none⟩) u.hs.length u.ch] 295)=WC at *
   have d0:=hC.cell 0
   have d1:=hC.cell 1
   have d2:=hC.cell 2
   have d3:=hC.cell 3
   simp at d0 d1 d2 d3
   subst hua'
   go_wp2_with fail
   refine hfd.out.mono ?_
   rintro e W5 ⟨rfl,fs',S5,hE5,hr5,k5,x5,n5,hf5⟩
   have Hn5:=hide n5
   clear n5 hfd q0 q1 q2 q3 d0 d1 d2 d3 hWC
   go_wp2_with fail
   go_roundw
   ·exact ⟨j+1,fs',S5,by simp,by omega,hE5,hr5,(hk.trans (kC.mono (by simp))).trans k5,hx.trans x5,by have:=Hn.out;have:=Hn5.out;push_cast;omega,hf5.iff Hst.out⟩
   ·simp only [intOf];omega
  ·have hjI:¬ (j:Int)<us.length:=by omega
   have e:j=us.length:=by omega
   subst e
   have hwo:=hide (without_calls (cf:=cf) hbr (ha.ext hx h.eng.wf hE.wf) hr (fun q=>by
    simp only [ftp,List.mem_cons,List.mem_append,List.mem_map] at q
    rcases q with q | ⟨x,hx,q⟩ | q
    ·obtain ⟨cs,hc,_⟩:=h.rel;have:=hc.lt;omega
    ·have:=(h.maps x hx).lt;omega
    ·exact hgB q) hgb hf (by have:=Hl.out;have:=Hn.out;omega))
   rw [hf.1] at hwo
   go_wp2_with fail
   refine hwo.out.mono ?_
   rintro e W5 ⟨rfl,fs',S5,hE5,hr5,k5,x5,n5,hf5⟩
   go_wp2_with fail
   go_ret
   exact ⟨g,cf,fs',S5,rfl,hg',hr5,hE5,(hk.trans k5).drop hg',hx.trans x5,by have:=Hn.out;omega,hf5⟩
end
section
open Go.RowKit
structure KlC (cs:Array Value) (o:Nat) (k:CluX):Prop where
 c0:cs[o]?=some (.int .i64 (k.c.head.rel:Int))
 c1:cs[o+1]?=some (.slice (some ⟨k.gt,0,none⟩) k.c.head.terms.length k.tc)
 c2:cs[o+2]?=some (.slice k.la k.c.lits.length k.lc)
structure KlsAt (w:World) (X:List Nat) (ka:Option Addr) (ks:List CluX):Prop where
 cells:0<ks.length→∃ gk cs,ka=some ⟨gk,0,none⟩∧gk∉X∧CellsAt w gk cs∧∀ (i:Nat) (k:CluX),ks[i]?=some k→KlC cs (i * 3) k
 clu:∀ k∈ks,CluAt w X k
theorem KlsAt.keeps {w w':World} {X T:List Nat} {ka:Option Addr} {ks:List CluX} (h:KlsAt w X ka ks) (k:Keeps T w w') (hT:∀ j∈T,j∈X∨w.heap.size≤j):KlsAt w' X ka ks:=by
 refine ⟨fun h0=>?_,fun u hu=>(h.clu u hu).keeps k hT⟩
 obtain ⟨gk,cs,h1,h2,h3,h4⟩:=h.cells h0
 exact ⟨gk,cs,h1,h2,h3.keeps k (fun hm=>(hT _ hm).elim h2 (fun q=>by have:=h3.lt;omega)),h4⟩
def litH (rks:Nat→List Nat→Option Nat) (l:AtomM×Bool) (ν:List Nat):Prop:=if l.2 then ¬ (rks l.1.rel (l.1.terms.map (tvR ν))).isSome=true else (rks l.1.rel (l.1.terms.map (tvR ν))).isSome=true
def ofLay (rs:List RelX) (lay:Nat) (k:CluX):Bool:=decide (layOf rs k.c.head.rel=lay)
def ruC (u:RuX):List Value:=[.int .i64 (u.c.head.rel:Int),.slice (some ⟨u.gt,0,none⟩) u.c.head.terms.length u.tc,.slice u.la u.c.lits.length u.lc,.slice (some ⟨u.gh,0,none⟩) u.hs.length u.ch]
def ruCs (us:List RuX):List Value:=us.flatMap ruC
theorem ruCs_snoc (us:List RuX) (u:RuX):ruCs (us++[u])=ruCs us++ruC u:=by simp [ruCs]
theorem ruCs_at {us:List RuX} {i:Nat} {u:RuX} (h:us[i]?=some u) {q:Nat} (hq:q<4):(ruCs us)[i * 4+q]?=(ruC u)[q]?:=by
 induction us generalizing i with
 | nil=>simp at h
 | cons y us ih=>
  have e:ruCs (y :: us)=ruC y++ruCs us:=by simp [ruCs]
  have hl:(ruC y).length=4:=rfl
  cases i with
  | zero=>simp at h;subst h;rw [e,List.getElem?_append_left (by omega)];congr 1;omega
  | succ i=>rw [e,List.getElem?_append_right (by omega),hl,show (i+1) * 4+q - 4=i * 4+q by omega];exact ih (by simpa using h)
theorem info295:(Tryz.prog.info? 295).map (fun i=>(i.zero,i.size,i.bytes))=some (some (.agg #[.int .i64 0,.slice none 0 0,.slice none 0 0,.slice none 0 0]),4,80):=by kernel_rfl
theorem four_cellsE {W:World} {a b c d:Value} {t:TypeId}:∀ (j:Nat) (x:Value),[a,b,c,d][j]?=some x→(W.alloc (.cells #[a,b,c,d] t)).cell? ((⟨W.heap.size,0,none⟩:Addr).add j)=some x:=by
 intro j x hx
 rw [Addr.add_lit,Nat.zero_add,(CellsAt.new W #[a,b,c,d] t).cell]
 match j with
 | 0=>simpa using hx
 | 1=>simpa using hx
 | 2=>simpa using hx
 | 3=>simpa using hx
 | j+4=>simp at hx
theorem HldS.snoc {S:ST} {hs:List Int} {Hs:List (List Nat→Prop)} (h:HldS S hs Hs) {y:Int} {H:List Nat→Prop} (hy:Rep S y 4 H):HldS S (hs++[y]) (Hs++[H]):=by
 refine ⟨by simp [h.1],fun i a b h1 h2=>?_⟩
 rcases Nat.lt_trichotomy i hs.length with hi | hi | hi
 ·rw [List.getElem?_append_left hi] at h1
  rw [List.getElem?_append_left (by rw [←h.1];exact hi)] at h2
  exact h.2 i a b h1 h2
 ·subst hi
  rw [List.getElem?_append_right (Nat.le_refl _)] at h1
  rw [h.1,List.getElem?_append_right (Nat.le_refl _)] at h2
  simp at h1 h2
  subst h1 h2
  exact hy
 ·rw [List.getElem?_eq_none (by simp;omega)] at h1;cases h1
structure Begun (w:World) (z:Nat) (S:ST) (rks:Nat→List Nat→Option Nat) (v:Value) (us:List RuX):Prop where
 row:w.ownsRow z 295 4 v us.length (ruCs us)
 hld:∀ u∈us,RowIs w u.gh u.hs∧z≤u.gh∧u.hs.length=u.c.lits.length∧HldS S u.hs (u.c.lits.map (litH rks))∧∀ q,v.ownBlock=some q→q≠u.gh
 nodup:(us.map (·.gh)).Nodup
theorem Begun.keeps {w w':World} {z:Nat} {S S':ST} {rks:Nat→List Nat→Option Nat} {v:Value} {us:List RuX} {T:List Nat} (h:Begun w z S rks v us) (k:Keeps T w w') (hT:∀ j∈T,j<z∨w.heap.size≤j) (x:Ext S S') (hw:WF S) (hw':WF S'):Begun w' z S' rks v us:=by
 have ne:∀ {j},z≤j→j<w.heap.size→j∉T:=fun h1 h2 hm=>by have:=hT _ hm;omega
 exact ⟨ownsRow_kept h.row k (fun i hi=>ne (ownE_base h.row i hi).1 (World.ownsRow.lt h.row i hi).2),fun u hu=>by
  obtain ⟨h1,h2,h3,h4,h5⟩:=h.hld u hu
  exact ⟨h1.keepsE k (ne h2 h1.lt),h2,h3,h4.ext x hw hw',h5⟩,h.nodup⟩
def BegTo (B:SB) (rs:List RelX) (ks:List CluX) (lay:Nat) (rks:Nat→List Nat→Option Nat) (w:World) (S:ST) (e:Ending) (w':World):Prop:=
 ∃ v us S',e=.returned v∧Begun w' w.heap.size S' rks v us∧us.map (·.toCluX)=ks.filter (ofLay rs lay)∧EngS w' B S'∧Keeps B.own w w'∧Ext S S'∧S'.next≤S.next+3500000000
end
end Go.Proofs.YtgjomknpjigkhaaGreatDoor
