import Derived.Test.YtgjomknpjigkhaaGreatDoorZ04
import Derived.Test.YtgjomknpjigkhaaGreatDoorZ05
import Derived.Deep.RegionWith
import Derived.StillTail
namespace Go.Proofs.YtgjomknpjigkhaaGreatDoor
open Go.Proofs.Tryz
set_option maxRecDepth 100000
set_option maxHeartbeats 4000000
section
open Go.RowKit Go.Shelf
attribute [local go_sem] Oper.semAt_some
theorem RT {P:Program} {ops:Array Oper} {W:World} {Q:Act→Prop}:∀ (l:List Oper) (a:Act),wpQuiet P ops (fun w'=>w' = W) Q l a→wpStill P ops W Q l a:=by
 intro l;induction l with
 | nil=>intro a h;exact h
 | cons o rest ih=>
  intro a h;unfold wpQuiet at h;unfold wpStill;split
  ·rename_i hw;rw [if_pos hw] at h;obtain ⟨v,h1,h2⟩:=h;have h3:=h1 W rfl;unfold Oper.quietAt at h3;unfold Oper.still;cases hr:(execOp a.eval o).run P W with
   | ok n w'=>
    rw [hr] at h3;cases n with
    | value u=>
     obtain ⟨e1,e2⟩:=h3;subst e2;exact ⟨e1,ih _ h2⟩
    | skip=>
     obtain ⟨e1,e2⟩:=h3;subst e2;exact ⟨e1,ih _ h2⟩
    | enter f args=>
     obtain ⟨e1,e2⟩:=h3;exact ⟨e1,v,e2,ih _ h2⟩
    | _=>exact h3.elim
   | _=>rw [hr] at h3;exact h3.elim
  ·rename_i hw;rw [if_neg hw] at h;exact ih _ h
theorem Fc {P:Program} {id:Nat} {Q:Exit→Act→World→Prop} {a:Act} {w:World} {l:List Oper} (n:Nat) (hm:P.follows .mixedOrders=true) (hB:Region.lexTailB .any l.toArray n=true)
  (h:wpQuiet P l.toArray (fun w'=>w' = w.drew) (fun a'=>wpList P l.toArray Q (l.drop n) a' w.drew) (l.take n) a):(Code.region id l.toArray true).wp P Q a w:=
 wp_region_still_tail n hm hB (RT _ _ h)
def ST.trues (S:ST) (f:Int) (k:Nat):List Nat:=(KL k 0).filter fun y=>S.den f (IC (y:Nat))
theorem TJ {S:ST} (hw:WF S) (hid:kV S) {f:Int} {k:Nat} (hf:S.ok f) (hh:Hk k S f) (hk:k≤S.n):S.tl k 0 f 0=S.trues f k:=by
 rw [RG hw hid k 0 f 0 hf (by have:=(Be hw hf).1;simpa using this) (by rwa [Ag]) (by omega)];simp [ST.trues]
theorem Oa (b k c n:Nat) (hc:k≤c) (h0:c≠0) (w:World):(Instr.slice 40 (.slice (some ⟨b,0,none⟩) n c) none (some (.int .i64 (k:Int))) none).run prog w=.ok (.slice (some ⟨b,0,none⟩) k c) w:=by
 rw [run_slice_h (P:=prog) w 40 _ _ _ (by kernel_rfl) .i64 k (by omega) (by omega)];simp [go_sem,sliced,h0,Addr.add]
theorem VY {w:World} {B:SB} {S:ST} (hS0:Aj w B S) (hw:WF S) (hid:kV S) (ho:∀ i:Nat,i<S.n→S.order[i]?=some (i:Int)) (n12:S.n=12) (hco:12≤B.co) (ps pf pv:Nat) (f:Int) (k:Nat) (hps0:AK w ps #[.pointer (some ⟨B.b,0,none⟩)]) (hpf0:AK w pf #[.int .i64 f]) (hpv0:AK w pv #[.int .i64 (k:Int)])
  (hf:S.ok f) (hh:Hk k S f) (hk:k≤9) (T:List Nat) (hT:∀ t∈T,t<w.heap.size∧t∉B.own) :
  nB 153 #[.pointer (some ⟨ps,0,none⟩),.pointer (some ⟨pf,0,none⟩),.pointer (some ⟨pv,0,none⟩)] eA (fun pre x=>(pre++[x]) <+: S.trues f k) (fun xs=>xs=S.trues f k) T w:=by
 intro n l J W hl hlW hb hJ hY h0;have hS:=hS0.of_heap (w':=W) (fun i hi=>hb.block i (hS0.lt i hi));have hps:=hps0.of_heap (w':=W) (hb.block ps hps0.lt);have hpf:=hpf0.of_heap (w':=W) (hb.block pf hpf0.lt);have hpv:=hpv0.of_heap (w':=W) (hb.block pv hpv0.lt);have q0:=hps.cell 0;have q1:=hpf.cell 0;have q2:=hpv.cell 0;have q3:=hS.head.cell 0;simp at q0 q1 q2 q3;have e:=TJ hw hid hf hh (by omega:k≤S.n);have hsl:=Oa B.bo k B.co S.order.length (by omega) (by omega);have hlT:∀ i∈B.own,i∉l :: T:=fun i hi x=>by
  rcases AG.1 x with e | x
  ·have:=hS0.lt i hi;omega
  ·exact (hT _ x).2 hi
 have hts:=AD (fun W1 (hk1:AA [] W W1)=>YT (B:=B) (S:=S) (l:=l) (J:=J) (T:=T) (L:=S.trues f k) (z:=W.heap.size) hw hid ho hJ hlT (fun m pre x W1 h1 h2=>I1 (hY pre x W1 h1 h2)) k 0 f 0 B.co [] W1 (by omega) (by omega) (by omega) (by decide) hf (by have:=(Be hw hf).1;simpa using this) (by rw [e];simp) (hS.keeps hk1) hk1.size (hJ _ _ _ h0 (hk1.below (AQ _) (by simp))));have He:=AD e;clear hY hJ e;refine callsIn_wide.2 ?_;simp only [Bo,A8,BM];go_in
 go_wp2_with fail
 refine Fc 9 (by kernel_rfl) (by kernel_rfl) ?_;simp only [CR,DW,CT,BV];repeat (go_big_quiet_step (fail))
 refine wpQuiet_nil ?_;go_wp2_with fail
 refine (hts.out _ (AA.drew [] W)).mono ?_;rintro e W1 ⟨rfl,h1,k1⟩;go_wp2_with fail
 go_end0
 exact ⟨⟨_,rfl⟩,_,He.out,h1,(AA.drew (l :: T) W).trans k1⟩
end
section
open Go.RowKit Go.Shelf
theorem Ke {w:World} {base:Nat} {v:Value} {xs:List Int} (h:w.ownsRow base 3 1 v xs.length (ints xs)) (h0:0<xs.length):∃ g cap,v=.slice (some ⟨g,0,none⟩) xs.length cap∧base≤g∧B8 w g xs∧xs.length≤cap:=by
 obtain ⟨e0,⟨rfl,e2⟩ | ⟨g,cap,cur,rfl,e2,e3,e4,e5,e6,e7⟩⟩:=id h
 ·omega
 ·refine ⟨g,cap,rfl,e2,⟨cur,⟨_,e3⟩,fun i x hx=>?_⟩,(Ol h).2.2.1⟩;have:=L6 h hx;rw [AK.cell ⟨_,e3⟩] at this;exact this
def QY (i:Nat):List Int:=(List.range i).map fun k:Nat=>(k:Int)
theorem EW (i:Nat):(QY i).length=i:=by simp [QY]
theorem Tg (i:Nat):QY (i+1)=QY i++[(i:Int)]:=by simp [QY,List.range_succ]
theorem L3 {i k:Nat} (h:k<i):(QY i)[k]?=some (k:Int):=by simp [QY,h]
def XH (x y:Value):Prop:=∀ i j,x.ownBlock=some i→y.ownBlock=some j→i≠j
theorem Ik {W:World} {y:Int}:∀ (j:Nat) (x:Value),(ints [y])[j]?=some x→(W.alloc (.cells #[.int .i64 y] 3)).cell? ((⟨W.heap.size,0,none⟩:Addr).add j)=some x:=by
 intro j x hx;obtain ⟨y',hy,rfl⟩:=MC [y] j x hx;rw [Addr.add_lit,Ag,(AK.new W #[.int .i64 y] 3).cell];cases j with
 | zero=>simp at hy;subst hy;rfl
 | succ j=>simp at hy
def ST.mk0 (n:Nat):ST:={ order:=QY n,place:=QY n,N:=[],U:=[],next:=2,K:=[] }
theorem mG (n:Nat):WF (ST.mk0 n):=by
 have ord:X6 (QY n) (QY n):=by
  refine ⟨rfl,?_,?_⟩
  ·intro i v hv;have hi:i<n:=by have:=(AL.1 hv).1;rwa [EW] at this
   rw [L3 hi] at hv;have:=Ar hv;subst this;rw [EW];exact ⟨by omega,by omega,by rw [BE];exact L3 hi⟩
  ·intro i v hv;have hi:i<n:=by have:=(AL.1 hv).1;rwa [EW] at this
   rw [L3 hi] at hv;have:=Ar hv;subst this;rw [EW];exact ⟨by omega,by omega,by rw [BE];exact L3 hi⟩
 exact ⟨ord,by show (2:Int)≤2;omega,(fun f v l h ht=>nomatch ht),(fun t f=>⟨fun h=>(nomatch h),fun h=>(nomatch h)⟩)⟩
theorem Y1 {w:World} (n:Nat) (n1:1≤n) (n8:n≤12) :
  Calls prog 71 #[.int .i64 n] w fun e w'=>∃ B,e=.returned (.pointer (some ⟨B.b,0,none⟩))∧Aj w' B (ST.mk0 n)∧(∀ i∈B.own,w.heap.size≤i)∧n≤B.co∧AA [] w w':=by
 obtain ⟨i0,hi0,hz0,hz1,hz2⟩:=info_parts MD;have hmm:=@run_makeMap prog;go_in
 go_wp2_with fail
 have z1:=size_alloc' w (.map #[] 0);have z2:=size_alloc' (w.alloc (.map #[] 0)) (.map #[] 0);have z3:=size_alloc' ((w.alloc (.map #[] 0)).alloc (.map #[] 0)) (.map #[] 0);rw [z1] at z2;rw [z2] at z3;obtain ⟨z,hz⟩:∃ z,w.heap.size=z:=⟨_,rfl⟩;have a1:Bi eI eT (w.alloc (.map #[] 0)) w.heap.size ([]:List (Int×GK)):=Bi.new w 0;have a2:Bi eT eI ((w.alloc (.map #[] 0)).alloc (.map #[] 0)) (w.alloc (.map #[] 0)).heap.size ([]:List (GK×Int)):=Bi.new _ 0;have a3:Bi eT eI (((w.alloc (.map #[] 0)).alloc (.map #[] 0)).alloc (.map #[] 0)) ((w.alloc (.map #[] 0)).alloc (.map #[] 0)).heap.size ([]:List (GK×Int)):=Bi.new _ 0;have a4:=AK.new (((w.alloc (.map #[] 0)).alloc (.map #[] 0)).alloc (.map #[] 0)) #[.slice none 0 0,.slice none 0 0,.map (some w.heap.size),.map (some (w.heap.size+1)),.int .i64 2,.map (some (w.heap.size+1+1))] 213;have k1:=AA.alloc [] w (.map #[] 0);have k2:=AA.alloc [] (w.alloc (.map #[] 0)) (.map #[] 0);have k3:=AA.alloc [] ((w.alloc (.map #[] 0)).alloc (.map #[] 0)) (.map #[] 0);have k4:=AA.alloc [] (((w.alloc (.map #[] 0)).alloc (.map #[] 0)).alloc (.map #[] 0)) (.cells #[.slice none 0 0,.slice none 0 0,.map (some w.heap.size),.map (some (w.heap.size+1)),.int .i64 2,.map (some (w.heap.size+1+1))] 213);have z4:=size_alloc' (((w.alloc (.map #[] 0)).alloc (.map #[] 0)).alloc (.map #[] 0)) (.cells #[.slice none 0 0,.slice none 0 0,.map (some w.heap.size),.map (some (w.heap.size+1)),.int .i64 2,.map (some (w.heap.size+1+1))] 213);rw [z1] at a2;rw [z2] at a3;rw [z3] at a4 z4;have b1:=((a1.kept k2 (by simp)).kept k3 (by simp)).kept k4 (by simp);have b2:=(a2.kept k3 (by simp)).kept k4 (by simp);have b3:=a3.kept k4 (by simp);have kk:=((k1.trans k2).trans k3).trans k4;clear a1 a2 a3 k1 k2 k3 k4 z1 z2 z3;generalize (((w.alloc (.map #[] 0)).alloc (.map #[] 0)).alloc (.map #[] 0)).alloc (.cells #[.slice none 0 0,.slice none 0 0,.map (some w.heap.size),.map (some (w.heap.size+1)),.int .i64 2,.map (some (w.heap.size+1+1))] 213)=W0 at a4 b1 b2 b3 kk z4 ⊢;have Hz:=AD hz;rw [hz] at a4 b1 b2 b3 z4 ⊢;clear hz;have HW0:=AD z4;clear z4
 go_loopw [11] (fun t wr=>∃ (i:Nat) (vo vp:Value),t=.int .i64 i∧i≤n∧AK wr (z+1+1+1) #[vo,vp,.map (some z),.map (some (z+1)),.int .i64 2,.map (some (z+1+1))]∧Hid (wr.ownsRow (z+1+1+1+1) 3 1 vo i (ints (QY i)))∧Hid (wr.ownsRow (z+1+1+1+1) 3 1 vp i (ints (QY i)))∧XH vo vp∧Bi eI eT wr z ([]:List (Int×GK))∧Bi eT eI wr (z+1) ([]:List (GK×Int))∧Bi eT eI wr (z+1+1) ([]:List (GK×Int))∧AA [] w wr)
  (fun t _=>((n:Int) - intOf t).toNat)
 case atStart=>exact ⟨0,_,_,rfl,by omega,a4,AD ⟨rfl,.inl ⟨rfl,rfl⟩⟩,AD ⟨rfl,.inl ⟨rfl,rfl⟩⟩,by intro i j h;simp [Value.ownBlock] at h,b1,b2,b3,kk⟩
 case round=>
  obtain ⟨i,vo,vp,rfl,hi,hc,ho,hp,hap,m1,m2,m3,hk⟩:=hrel;clear a4 b1 b2 b3 kk HW0;by_cases hlt:i<n
  ·have hltI:(i:Int)<n:=(by omega);have hi63:(i:Int)<9223372036854775807:=(by omega);have c0:=hc.cell 0;simp at c0;have hbl:=hc.lt;have kB:=AA.alloc [] wr (.cells #[.int .i64 i] 3);have hcB:=hc.keeps kB;have hoB:=AH ho.out kB;have hpB:=AD (AH hp.out kB);have hszB:z+1+1+1+1≤(wr.alloc (.cells #[.int .i64 i] 3)).heap.size:=by rw [size_alloc'];omega
   have hone:=Ik (W:=wr) (y:=(i:Int));have hmB1:=AD (m1.kept kB (by simp));have hmB2:=AD (m2.kept kB (by simp));have hmB3:=AD (m3.kept kB (by simp));go_wp2_with (at_builtin;refine wpList_append_own_at _ rfl _ _ 40 rfl (z+1+1+1+1) 3 i0 (.int .i64 0) 1 8 underlying40 hi0 hz0 hz1 hz2 rfl (by decide) _ i (ints (QY i)) rfl hoB ⟨wr.heap.size,0,none⟩ 1 1 (ints [(i:Int)]) rfl (by simp [ints]) hone (FP _) (by unfold maxLen;omega) (by omega) hszB ?_)
   intro vo' W1 hown1 hgrow1 hnil1 hat1;have hex1:∃ g cap,vo' = .slice (some ⟨g,0,none⟩) (i+1) cap:=by
    rcases hown1.2 with ⟨e,e2⟩ | ⟨g,cap,cur,e,_⟩
    ·omega
    ·exact ⟨g,cap,e⟩
   obtain ⟨go,capo,hvo'⟩:=hex1;subst hvo';have k1:=grownBy_keeps' hgrow1 vo.ownBlock.toList (fun r e=>.inl (by rw [e];simp));have hlowo:∀ j∈vo.ownBlock.toList,z+1+1+1+1≤j:=fun j hj=>(As hoB j (by simpa using hj)).1;have hc1:=hcB.keeps k1 (fun x=>by have:=hlowo _ x;omega);have m11:=AD (hmB1.out.kept k1 (fun x=>by have:=hlowo _ x;omega));have m12:=AD (hmB2.out.kept k1 (fun x=>by have:=hlowo _ x;omega));have m13:=AD (hmB3.out.kept k1 (fun x=>by have:=hlowo _ x;omega));have hp1:=AD (AH hpB.out k1 (fun j hj x=>hap j j (by simpa using x) hj rfl));have hap1:XH (.slice (some ⟨go,0,none⟩) (i+1) capo) vp:=by
    intro x y hx hy;rcases hat1 with e | e
    ·rw [e] at hx;exact hap x y hx hy
    ·rw [e] at hx;have h2:=(World.ownsRow.lt hp.out y hy).2;have h3:=Ar hx;omega
   have hk1:AA [] w W1:=(hk.trans kB).trans_new k1 (fun j hj=>.inr (by have:=hlowo j hj;have:=Hz.out;omega));have c10:=hc1.cell 0;have f10:=hc1.frozen 0;simp at c10;have hs1:=hc1.setCell 0 (.slice (some ⟨go,0,none⟩) (i+1) capo);have ks1:=AA.setCell W1 ⟨z+1+1+1,0,none⟩ (.slice (some ⟨go,0,none⟩) (i+1) capo);have hT:∀ j,z+1+1+1+1≤j→j∉[z+1+1+1]:=fun j hj x=>by simp only [AF] at x;omega
   have ho2:=AD (AH hown1 ks1 (fun j hj=>hT j (As hown1 j hj).1));have hp2:=AH hp1.out ks1 (fun j hj=>hT j (As hp1.out j hj).1);have m21:=AD (m11.out.kept ks1 (by simp;omega));have m22:=AD (m12.out.kept ks1 (by simp));have m23:=AD (m13.out.kept ks1 (by simp));have hk2:AA [] w (W1.setCell ⟨z+1+1+1,0,none⟩ (.slice (some ⟨go,0,none⟩) (i+1) capo)):=hk1.trans_new ks1 (fun j hj=>.inr (by simp only [AF] at hj;have:=Hz.out;omega));have hs1':AK (W1.setCell ⟨z+1+1+1,0,none⟩ (.slice (some ⟨go,0,none⟩) (i+1) capo)) (z+1+1+1) #[.slice (some ⟨go,0,none⟩) (i+1) capo,vp,.map (some z),.map (some (z+1)),.int .i64 2,.map (some (z+1+1))]:=(by simpa using hs1);clear hs1 hown1 hgrow1 hnil1 hat1 hone hszB hoB hcB c0 m11 m12 m13 hp1 hpB hmB1 hmB2 hmB3;have hbl2:=hs1'.lt;have hsz2:(W1.setCell ⟨z+1+1+1,0,none⟩ (.slice (some ⟨go,0,none⟩) (i+1) capo)).heap.size=W1.heap.size:=(by simp);have d1:=hs1'.cell 1;simp at d1;have kC:=AA.alloc [] (W1.setCell ⟨z+1+1+1,0,none⟩ (.slice (some ⟨go,0,none⟩) (i+1) capo)) (.cells #[.int .i64 i] 3);have hcC:=hs1'.keeps kC;have hoC:=AD (AH ho2.out kC);have hpC:=AH hp2 kC;have hszC:z+1+1+1+1≤((W1.setCell ⟨z+1+1+1,0,none⟩ (.slice (some ⟨go,0,none⟩) (i+1) capo)).alloc (.cells #[.int .i64 i] 3)).heap.size:=by rw [size_alloc',hsz2];rw [hsz2] at hbl2;omega
   have hone:=Ik (W:=(W1.setCell ⟨z+1+1+1,0,none⟩ (.slice (some ⟨go,0,none⟩) (i+1) capo))) (y:=(i:Int));have n1':=AD (m21.out.kept kC (by simp));have n2':=AD (m22.out.kept kC (by simp));have n3':=AD (m23.out.kept kC (by simp));rw [hsz2] at hone hbl2;have Hbl2:=AD hbl2;clear hp2 hsz2 hbl2;go_wp2_with (at_builtin;refine wpList_append_own_at _ rfl _ _ 40 rfl (z+1+1+1+1) 3 i0 (.int .i64 0) 1 8 underlying40 hi0 hz0 hz1 hz2 rfl (by decide) _ i (ints (QY i)) rfl hpC ⟨W1.heap.size,0,none⟩ 1 1 (ints [(i:Int)]) rfl (by simp [ints]) hone (FP _) (by unfold maxLen;omega) (by omega) hszC ?_)
   intro vp' W3 hown3 hgrow3 hnil3 hat3;have hex3:∃ g cap,vp' = .slice (some ⟨g,0,none⟩) (i+1) cap:=by
    rcases hown3.2 with ⟨e,e2⟩ | ⟨g,cap,cur,e,_⟩
    ·omega
    ·exact ⟨g,cap,e⟩
   obtain ⟨gp,capp,hvp'⟩:=hex3;subst hvp';have k3:=grownBy_keeps' hgrow3 vp.ownBlock.toList (fun r e=>.inl (by rw [e];simp));have hlowp:∀ j∈vp.ownBlock.toList,z+1+1+1+1≤j:=fun j hj=>(As hpC j (by simpa using hj)).1;have hc3:=hcC.keeps k3 (fun x=>by have:=hlowp _ x;omega);have q1:=AD (n1'.out.kept k3 (fun x=>by have:=hlowp _ x;omega));have q2:=AD (n2'.out.kept k3 (fun x=>by have:=hlowp _ x;omega));have q3:=AD (n3'.out.kept k3 (fun x=>by have:=hlowp _ x;omega));have ho3:=AD (AH hoC.out k3 (fun j hj x=>hap1 j j hj (by simpa using x) rfl));have hap3:XH (.slice (some ⟨go,0,none⟩) (i+1) capo) (.slice (some ⟨gp,0,none⟩) (i+1) capp):=by
    intro x y hx hy;rcases hat3 with e | e
    ·rw [e] at hy;exact hap1 x y hx hy
    ·rw [e] at hy;have h2:=(World.ownsRow.lt ho2.out x hx).2;have h3:=Ar hy;simp at h2 h3;omega
   have hk3:AA [] w W3:=(hk2.trans kC).trans_new k3 (fun j hj=>.inr (by have:=hlowp j hj;have:=Hz.out;omega));have c30:=hc3.cell 1;have f30:=hc3.frozen 1;simp at c30;have hs3:=hc3.setCell 1 (.slice (some ⟨gp,0,none⟩) (i+1) capp);have ks3:=AA.setCell W3 ⟨z+1+1+1,1,none⟩ (.slice (some ⟨gp,0,none⟩) (i+1) capp);have ho4:=AD (AH ho3.out ks3 (fun j hj=>hT j (As ho3.out j hj).1));have hp4:=AD (AH hown3 ks3 (fun j hj=>hT j (As hown3 j hj).1));have r1:=AD (q1.out.kept ks3 (by simp;omega));have r2:=AD (q2.out.kept ks3 (by simp));have r3:=AD (q3.out.kept ks3 (by simp));have hk4:AA [] w (W3.setCell ⟨z+1+1+1,1,none⟩ (.slice (some ⟨gp,0,none⟩) (i+1) capp)):=hk3.trans_new ks3 (fun j hj=>.inr (by simp only [AF] at hj;have:=Hz.out;omega));clear hown3 hgrow3 hnil3 hat3 hone hszC hpC hcC d1;go_wp2_with fail
   go_roundw
   ·refine ⟨i+1,_,_,by simp,by omega,by simpa using hs3,AD ?_,AD ?_,hap3,r1.out,r2.out,r3.out,hk4⟩
    ·have:=ho4.out;rw [Tg];simpa [ints] using this
    ·have:=hp4.out;rw [Tg];simpa [ints] using this
   ·simp only [intOf];omega
  ·have hie:i=n:=(by omega);subst hie;obtain ⟨go,capo,hvo,hgo,hro,hco⟩:=Ke (xs:=QY i) (by rw [EW];exact ho.out) (by rw [EW];omega);obtain ⟨gp,capp,hvp,hgp,hrp,_⟩:=Ke (xs:=QY i) (by rw [EW];exact hp.out) (by rw [EW];omega);rw [EW] at hvo hvp hco;subst hvo hvp;have hne:go≠gp:=hap go gp rfl rfl;have Hco:=AD hco;clear hco;clear ho hp hap hlt;go_wp2_with fail
   go_ret
   refine ⟨⟨z+1+1+1,go,gp,z,z+1,z+1+1,capo,capp⟩,rfl,⟨by simpa [ST.mk0,EW] using hc,hro,hrp,m1,m2,m3,?_⟩,?_,Hco.out,hk⟩
   ·simp [SB.own];omega
   ·intro j hj;have:=Hz.out;simp only [SB.own,AG,A7,or_false] at hj;omega
end
section
open Go.RowKit
structure DB (w:World) (B:SB) (S:ST):Prop where
 sat:Aj w B S
 wf:WF S
 kok:Jj S
 ord:S.order=QY 12
 co:12≤B.co
theorem DB.n {w:World} {B:SB} {S:ST} (h:DB w B S):S.n=12:=by unfold ST.n;rw [h.ord];rfl
theorem DB.ho {w:World} {B:SB} {S:ST} (h:DB w B S):∀ i:Nat,i<S.n→S.order[i]?=some (i:Int):=fun i hi=>by rw [h.ord];exact L3 (by rw [←h.n];exact hi)
theorem DB.idn {w:World} {B:SB} {S:ST} (h:DB w B S):kV S:=fun v v0 v1=>by
 obtain ⟨i,rfl⟩:=Bm v0;have:=(h.wf.ord.op i _ (h.ho i (by omega))).2.2;rw [BE] at this;unfold ST.pl;rw [BE,this];rfl
theorem DB.keeps {w w':World} {B:SB} {S:ST} {T:List Nat} (h:DB w B S) (k:AA T w w') (hT:∀ i∈B.own,i∉T:=by simp):DB w' B S:=⟨h.sat.keeps k hT,h.wf,h.kok,h.ord,h.co⟩
theorem DB.keeps0 {w w':World} {B:SB} {S:ST} (h:DB w B S) (k:AA [] w w'):DB w' B S:=h.keeps k
def GW (S:ST) (f:Int) (c:Nat) (R:List Nat→Prop):Prop:=S.ok f∧∀ σ,S.den f σ=true↔R (ED σ 0 c)
def GL (S:ST) (f:Int) (F:(Int→Bool)→Prop):Prop:=S.ok f∧∀ σ,S.den f σ=true↔F σ
theorem GL.ext {S S':ST} {f:Int} {F:(Int→Bool)→Prop} (h:GL S f F) (x:EK S S') (hw:WF S) (hw':WF S'):GL S' f F:=⟨x.ok h.1,fun σ=>by rw [x.den hw hw' h.1];exact h.2 σ⟩
theorem GW.hk {S:ST} {f:Int} {c:Nat} {R:List Nat→Prop} (h:GW S f c R):Hk (3 * c) S f:=fun v v0 v1 σ b=>by
 have e:ED (Kr σ v b) 0 c=ED σ 0 c:=I4 c 0 fun u _ hu=>OH _ _ (by omega);have h1:=h.2 (Kr σ v b);rw [e,←h.2 σ] at h1;cases h2:S.den f σ <;> cases h3:S.den f (Kr σ v b) <;> simp_all
def JR (B:SB) (w:World) (S:ST) (F:(Int→Bool)→Prop) (c:Int) (e:Ending) (w':World):Prop:=
 ∃ r S',e=.returned (.int .i64 r)∧DB w' B S'∧AA B.own w w'∧EK S S'∧S'.next≤S.next+c∧GL S' r F
theorem Rs {S S':ST} (x:EK S S') (h:S.order=QY 12):S'.order=QY 12:=x.order.trans h
theorem GG {B:SB} {w:World} {S:ST} {G:(Int→Bool)→Bool} {F:(Int→Bool)→Prop} {c m:Int} {e:Ending} {w':World} (hE:DB w B S) (h:Nm B w S G c m e w') (hF:∀ σ,G σ=true↔F σ):JR B w S F c e w':=by
 obtain ⟨r,S',rfl,h1,h2,p⟩:=h;exact ⟨r,S',rfl,⟨h1,p.wf,p.known,Rs p.ext hE.ord,hE.co⟩,h2,p.ext,p.next,p.ok,fun σ=>by rw [p.den];exact hF σ⟩
theorem LA:Ge 12=4095:=by decide
theorem fc12:fc (Ge 12) 12=16769025:=by decide
theorem fc13:fc (Ge 12+1) 12=16773120:=by decide
section
variable {B:SB} {w:World} {S:ST} {f g:Int} {F G:(Int→Bool)→Prop}
theorem iD (hE:DB w B S) (hf:GL S f F) (hg:GL S g G) (hl:S.next+4095<GN):Calls prog 73 #[.pointer (some ⟨B.b,0,none⟩),.int .i64 f,.int .i64 g] w (JR B w S (fun σ=>F σ∨G σ) 4095):=by
 have:=Tt f g hE.sat hE.wf hE.kok hf.1 hg.1 (by rw [hE.n,LA];exact hl);rw [hE.n,LA] at this;exact this.mono fun e w' h=>GG hE h fun σ=>by rw [Cu,hf.2,hg.2]
theorem eX (hE:DB w B S) (hf:GL S f F) (hg:GL S g G) (hl:S.next+4095<GN):Calls prog 148 #[.pointer (some ⟨B.b,0,none⟩),.int .i64 f,.int .i64 g] w (JR B w S (fun σ=>F σ∧G σ) 4095):=by
 have:=Zi f g hE.sat hE.wf hE.kok hf.1 hg.1 (by rw [hE.n,LA];exact hl);rw [hE.n,LA] at this;exact this.mono fun e w' h=>GG hE h fun σ=>by rw [A1,hf.2,hg.2]
theorem dX (hE:DB w B S) (hf:GL S f F) (hg:GL S g G) (hl:S.next+4095<GN):Calls prog 88 #[.pointer (some ⟨B.b,0,none⟩),.int .i64 f,.int .i64 g] w (JR B w S (fun σ=>F σ∧¬ G σ) 4095):=by
 have:=Wn f g hE.sat hE.wf hE.kok hf.1 hg.1 (by rw [hE.n,LA];exact hl);rw [hE.n,LA] at this;exact this.mono fun e w' h=>GG hE h fun σ=>by rw [A1,hf.2,←hg.2];simp
theorem xor_E (hE:DB w B S) (hf:GL S f F) (hg:GL S g G) (hl:S.next+8190<GN):Calls prog 213 #[.pointer (some ⟨B.b,0,none⟩),.int .i64 f,.int .i64 g] w (JR B w S (fun σ=>¬ (F σ↔G σ)) 8190):=by
 have:=YE f g hE.sat hE.wf hE.kok hf.1 hg.1 (by rw [hE.n,LA];omega);rw [hE.n,LA] at this;exact this.mono fun e w' h=>GG hE h fun σ=>by rw [←hf.2,←hg.2];cases S.den f σ <;> cases S.den g σ <;> simp
theorem not_E (hE:DB w B S) (hf:GL S f F) (hl:S.next+4095<GN):Calls prog 170 #[.pointer (some ⟨B.b,0,none⟩),.int .i64 f] w (JR B w S (fun σ=>¬ F σ) 4095):=by
 have:=Qf f hE.sat hE.wf hE.kok hf.1 (by rw [hE.n,LA];exact hl);rw [hE.n,LA] at this;exact this.mono fun e w' h=>GG hE h fun σ=>by rw [←hf.2];simp
theorem Zt (hE:DB w B S) (i:Nat) (hi:i<12) (hl:S.next+1<GN):Calls prog 145 #[.pointer (some ⟨B.b,0,none⟩),.int .i64 (i:Int)] w (JR B w S (fun σ=>σ i=true) 1):=by
 have:=Vh (i:Int) hE.sat hE.wf hE.kok (by omega) (by rw [hE.n];omega) (by unfold GN at hl ⊢;omega);exact this.mono fun e w' h=>GG hE h fun σ=>Iff.rfl
theorem XP (hE:DB w B S) {bt ct k:Nat} {bys:List Int} (hf:S.ok f) (hG:Hk k S f) (hrow:B8 w bt bys) (hbt:bt∉B.own) (hlen:k≤bys.length) (hby:∀ b∈bys,S.ok b) (hl:S.next+16769025<GN) :
  Calls prog 146 #[.pointer (some ⟨B.b,0,none⟩),.int .i64 f,.slice (some ⟨bt,0,none⟩) bys.length ct] w (JR B w S (fun σ=>S.den f (Zp S bys σ)=true) 16769025):=by
 have:=RO (ct:=ct) f bt k bys hE.sat hE.wf hE.kok hf hrow hbt hlen hby hG (by rw [hE.n,fc12];exact hl);rw [hE.n,fc12] at this;refine this.mono ?_;rintro e w' ⟨r,S',rfl,h1,h2,p⟩;exact ⟨r,S',rfl,⟨h1,p.wf,p.known,Rs p.ext hE.ord,hE.co⟩,h2,p.ext,p.next,p.rel.1,fun σ=>by rw [p.rel.2,p.ext.den hE.wf p.wf hf,RZ p.ext hE.wf p.wf hby]⟩
theorem dR (hE:DB w B S) {X:Nat} (hf:GL S f F) (hX:X<4096) (hl:S.next+16773120<GN) :
  Calls prog 147 #[.pointer (some ⟨B.b,0,none⟩),.int .i64 f,.int .i64 (X:Int)] w (JR B w S (fun σ=>∃ τ:Int→Bool,(∀ v:Nat,v<12→X.testBit v=false→τ v=σ v)∧F τ) 16773120):=by
 have:=SS f (X:Int) hE.sat hE.wf hE.kok hf.1 (by rw [hE.n];omega) (by omega) (by omega) (by rw [hE.n,fc13];exact hl);rw [hE.n,fc13] at this;refine this.mono ?_;rintro e w' ⟨r,S',rfl,h1,h2,p⟩;have hn:S'.n=12:=by rw [p.ext.n,hE.n]
 refine ⟨r,S',rfl,⟨h1,p.wf,p.known,Rs p.ext hE.ord,hE.co⟩,h2,p.ext,p.next,p.rel.1,fun σ=>?_⟩;rw [p.rel.2.2];constructor
 ·rintro ⟨τ,h3,h4⟩;exact ⟨τ,fun v hv hb=>h3 v (by omega) (by rw [hn];omega) (by rw [PQ];exact hb),by rw [p.ext.den hE.wf p.wf hf.1,hf.2] at h4;exact h4⟩
 ·rintro ⟨τ,h3,h4⟩;refine ⟨τ,fun v v0 v1 hb=>?_,by rw [p.ext.den hE.wf p.wf hf.1,hf.2];exact h4⟩;obtain ⟨i,rfl⟩:=Bm v0;rw [hn] at v1;exact h3 i (by omega) (by rw [←PQ];exact hb)
end
structure KY (w:World) (bb:Nat) (B:SB):Prop where
 cell:w.cell? ⟨bb,4,none⟩=some (.pointer (some ⟨B.b,0,none⟩))
 lt:bb<w.heap.size
 no:bb∉B.own
theorem FF {w w':World} {T:List Nat} (k:AA T w w') {b i:Nat} (hb:b<w.heap.size) (hT:b∉T):w'.cell? ⟨b,i,none⟩=w.cell? ⟨b,i,none⟩:=by
 unfold World.cell?;rw [k.block b hb hT]
theorem KY.keeps {w w':World} {bb:Nat} {B:SB} {T:List Nat} (h:KY w bb B) (k:AA T w w') (hT:bb∉T:=by simp):KY w' bb B:=⟨by rw [FF k h.lt hT];exact h.cell,A4 h.lt k.size,h.no⟩
theorem KY.own {w w':World} {bb:Nat} {B:SB} (h:KY w bb B) (k:AA B.own w w'):KY w' bb B:=h.keeps k h.no
theorem Eb (w:World) (p i:Nat) (hp:p<100) (hi:i<100):Calls prog 144 #[.int .i64 (p:Int),.int .i64 (i:Int)] w fun e w'=>e=.returned (.int .i64 ((3 * p+i:Nat):Int))∧w' = w:=by
 go_in
 go_wp2
 go_ret
 exact ⟨by simp,rfl⟩
def Np (σ:Int→Bool) (t:BN) (i:Nat):Bool:=if t.isVar then σ (3 * t.num.toNat+i:Nat) else t.num.toNat.testBit (2 - i)
def Km (σ:Int→Bool) (t:BN):Nat:=if t.isVar then F7 σ t.num.toNat else t.num.toNat
def JQ (t:BN):Prop:=0≤t.num∧t.num<8∧(t.isVar=true→t.num<4)
def nJ (t:BN):Value:=.agg #[.bool t.isVar,.int .i64 t.num]
theorem gI (m k:Nat) (hm:m<8):(bits BinOp.and IntKind.i64 ((m:Int) / 2 ^ k) 1 == 1)=m.testBit k:=by
 have h:=U3 (a:=(m:Int)) (v:=(k:Int)) (by omega) (by omega);rw [BE] at h;rw [h,PQ]
theorem Zd {w:World} (bb m i:Nat) (hm:m<8) (hi:i<3):Calls prog 214 #[.pointer (some ⟨bb,0,none⟩),.agg #[.bool false,.int .i64 (m:Int)],.int .i64 (i:Int)] w fun e w'=>e=.returned (.int .i64 (if m.testBit (2 - i) then 1 else 0))∧AA [] w w':=by
 have h2:=gI m (2 - i) hm;obtain ⟨k,hk⟩:∃ k:Nat,2 - i=k:=⟨_,rfl⟩;have hkI:IntKind.i64.wrap (2 - (i:Int))=(k:Int):=by rw [IntKind.wrap_i64];omega
 have hk3:k<3:=by omega
 rw [hk] at h2 ⊢;have hmI:(m:Int)<8:=by omega
 clear hk hi;cases hb:m.testBit k
 all_goals
  rw [hb] at h2;go_in
  go_wp2
  go_ret
  exact ⟨rfl,AA.alloc [] w _⟩
theorem jS {w:World} {B:SB} {S:ST} (hE:DB w B S) {bb:Nat} (hb:KY w bb B) (m i:Nat) (hm:m<4) (hi:i<3) (hl:S.next+1<GN):Calls prog 214 #[.pointer (some ⟨bb,0,none⟩),.agg #[.bool true,.int .i64 (m:Int)],.int .i64 (i:Int)] w (JR B w S (fun σ=>σ (3 * m+i:Nat)=true) 1):=by
 have kA:=AA.alloc [] w (.cells #[.bool true,.int .i64 (m:Int)] 220);have hT:=AK.new w #[.bool true,.int .i64 (m:Int)] 220;have hE1:=hE.keeps0 kA;have hb1:=hb.keeps kA;have hc1:=hb1.cell;have hv:=AD (fun W=>Eb W m i (by omega) (by omega));have hx:=AD (fun (W:World) (k:AA [] (w.alloc (.cells #[.bool true,.int .i64 (m:Int)] 220)) W)=>Zt (hE1.keeps0 k) (3 * m+i) (by omega) hl);generalize hW:w.alloc (.cells #[.bool true,.int .i64 (m:Int)] 220)=W at *;generalize hz:w.heap.size=z at *;generalize 3 * m+i=q at *;have c0:=hT.cell 0;have c1:=hT.cell 1;simp at c0 c1;go_in
 go_wp2_with fail
 have hv2:=AD (hv.out W.drew);refine Fc 8 (by kernel_rfl) (by kernel_rfl) ?_;simp only [CR,DW,CT,BV];repeat (first | go_big_quiet_step (fail) | (go_big_quiet_want;go_big_quiet_op;apply Exists.intro;refine Ak (hv2.out) ?_;go_big_quiet_on))
 refine wpQuiet_nil ?_;go_wp2_with fail
 refine (hx.out _ (AA.drew [] W)).mono ?_;rintro e W1 ⟨r,S1,rfl,hE2,k2,x2,n2,hr⟩;go_wp2_with fail
 go_ret
 exact ⟨r,S1,rfl,hE2,((kA.trans (AA.drew [] W)).mono (by simp)).trans k2,x2,n2,hr⟩
theorem Vs {S:ST} (b:Bool):GL S (if b then 1 else 0) (fun _=>b=true):=by
 cases b
 ·exact ⟨Es S,fun σ=>by simp [CI]⟩
 ·exact ⟨IR S,fun σ=>by simp [Dq]⟩
theorem Qx {w:World} {B:SB} {S:ST} (hE:DB w B S) {bb:Nat} (hb:KY w bb B) (t:BN) (ht:JQ t) (i:Nat) (hi:i<3) (hl:S.next+1<GN):Calls prog 214 #[.pointer (some ⟨bb,0,none⟩),nJ t,.int .i64 (i:Int)] w (JR B w S (fun σ=>Np σ t i=true) 1):=by
 obtain ⟨h0,h8,h4⟩:=ht;obtain ⟨v,num⟩:=t;simp only at h0 h8 h4;obtain ⟨m,rfl⟩:=Bm h0;cases v with
 | true=>exact jS hE hb m i (by have:=h4 rfl;omega) hi hl
 | false=>
  refine (Zd bb m i (by omega) hi).mono ?_;rintro e w' ⟨rfl,k⟩;exact ⟨_,S,rfl,hE.keeps0 k,k.mono (by simp),EK.refl S,by omega,Vs _⟩
theorem bS {a b c a' b' c':Bool}:4 * a.toNat+2 * b.toNat+c.toNat=4 * a'.toNat+2 * b'.toNat+c'.toNat↔(a=a'∧b=b'∧c=c'):=by
 cases a <;> cases b <;> cases c <;> cases a' <;> cases b' <;> cases c' <;> decide
theorem bT:∀ m:Nat,m<8→m=4 * (m.testBit 2).toNat+2 * (m.testBit 1).toNat+(m.testBit 0).toNat:=by decide
theorem QN (σ:Int→Bool) {t:BN} (ht:JQ t):Km σ t=4 * (Np σ t 0).toNat+2 * (Np σ t 1).toNat+(Np σ t 2).toNat:=by
 obtain ⟨h0,h8,_⟩:=ht;unfold Km Np;cases t.isVar with
 | true=>simp only [if_true];rfl
 | false=>simp only [BQ,if_false];exact bT _ (by omega)
def mR (col:Nat) (t:BN) (j:Nat) (σ:Int→Bool):Prop:=∀ i,i<j→(σ (3 * col+i:Nat)=true↔Np σ t i=true)
theorem dS (col:Nat) {t:BN} (ht:JQ t) (σ:Int→Bool):mR col t 3 σ↔F7 σ col=Km σ t:=by
 rw [QN σ ht];unfold F7;rw [bS];constructor
 ·intro h;exact ⟨Bg.2 (h 0 (by omega)),Bg.2 (h 1 (by omega)),Bg.2 (h 2 (by omega))⟩
 ·rintro ⟨h0,h1,h2⟩ i hi;match i with
  | 0=>exact Bg.1 h0
  | 1=>exact Bg.1 h1
  | 2=>exact Bg.1 h2
  | i+3=>omega
theorem Ng {w:World} {B:SB} {S:ST} (hE:DB w B S) {bb:Nat} (hb:KY w bb B) (col:Nat) (hcol:col<4) (t:BN) (ht:JQ t) (hl:S.next+40000<GN):Calls prog 149 #[.pointer (some ⟨bb,0,none⟩),.int .i64 (col:Int),nJ t] w (JR B w S (fun σ=>F7 σ col=Km σ t) 36861):=by
 have kA:=AA.alloc [] w (.cells #[.bool t.isVar,.int .i64 t.num] 220);have hT:=AK.new w #[.bool t.isVar,.int .i64 t.num] 220;have hE1:=hE.keeps0 kA;have hb1:=hb.keeps kA;have hzo:w.heap.size∉B.own:=hE.sat.fresh (AQ _);have Hl:=AD hl;have Ht:=AD ht;clear hl ht;unfold nJ;have hEq:=fun σ=>dS col Ht.out σ;obtain ⟨v,m⟩:=t;simp only at hT kA hE1 hb1;generalize hW:w.alloc (.cells #[.bool v,.int .i64 m] 220)=W at hT kA hE1 hb1;go_in
 go_wp2_with fail
 generalize hz:w.heap.size=z at *;go_loopw [7,10] (fun x y wr=>∃ (r:Int) (j:Nat) (S1:ST),x=.int .i64 r∧y=.int .i64 j∧j≤3∧DB wr B S1∧AA B.own W wr∧EK S S1∧S1.next≤S.next+12287 * j∧GL S1 r (mR col ⟨v,m⟩ j)) (fun _ y _=>((3:Int) - intOf y).toNat)
 case atStart=>exact ⟨1,0,S,rfl,rfl,by omega,hE1,AA.refl _ _,EK.refl S,by omega,IR S,fun σ=>by simp [Dq,mR]⟩
 case round=>
  obtain ⟨r,j,S1,rfl,rfl,hj,hEr,hk,hx,hn,hr⟩:=hrel;have hbr:=hb1.own hk;have hTr:=hT.keeps hk hzo;by_cases hj3:j<3
  ·have hjI:(j:Int)<3:=(by omega);have hv:=AD (fun W=>Eb W col j (by omega) (by omega));have h1:=AD (fun (W:World) (k:AA [] wr W)=>Zt (hEr.keeps0 k) (3 * col+j) (by omega) (by have:=Hl.out;omega));have g0:=hbr.cell;have g1:=hTr.cell 0;have g2:=hTr.cell 1;simp at g1 g2;have Hn:=AD hn;clear hn;go_wp2_with fail
   go_region_held3 (fun w'=>w'.cell? ⟨bb,4,none⟩=some (.pointer (some ⟨B.b,0,none⟩))∧w'.cell? ⟨z,0,none⟩=some (.bool v)∧w'.cell? ⟨z,1,none⟩=some (.int .i64 m)) (first | exact ⟨g0,g1,g2⟩ | exact ⟨a0,a1,a2⟩ | exact ⟨b0,b1,b2⟩ | exact ⟨d0,d1,d2⟩)
    (first
    | (go_at_call 144
       refine (hv.out _).mono ?_
       rintro e W2 ⟨rfl,rfl⟩)
    | (go_at_call 145
       refine (h1.out _ (AA.drew [] _)).mono ?_;rintro e W3 ⟨r1,S2,rfl,hE3,k3,x3,n3,hr3⟩;have hb3:=(hbr.keeps (AA.drew [] _)).own k3;have hT3:=(hTr.keeps (AA.drew [] _)).keeps k3 hzo;have a0:=hb3.cell;have a1:=hT3.cell 0;have a2:=hT3.cell 1
       simp at a1 a2)
    | (go_at_call 214
       refine (Qx hE3 hb3 ⟨v,m⟩ Ht.out j hj3 (by have:=Hl.out;have:=Hn.out;omega)).mono ?_;rintro e W4 ⟨r2,S3,rfl,hE4,k4,x4,n4,hr4⟩;have hb4:=hb3.own k4;have hT4:=hT3.keeps k4 hzo;have b0:=hb4.cell;have b1:=hT4.cell 0;have b2:=hT4.cell 1
       simp at b1 b2)
    | (go_at_call 213
       refine (xor_E hE4 (hr3.ext x4 hE3.wf hE4.wf) hr4 (by have:=Hl.out;have:=Hn.out;omega)).mono ?_;rintro e W5 ⟨r3,S4,rfl,hE5,k5,x5,n5,hr5⟩;have hb5:=hb4.own k5;have hT5:=hT4.keeps k5 hzo;have d0:=hb5.cell;have d1:=hT5.cell 0;have d2:=hT5.cell 1
       simp at d1 d2))
   all_goals
    have hd:=AD (fun (W:World) (k:AA [] W5 W)=>dX (hE5.keeps0 k) (hr.ext ((x3.trans x4).trans x5) hEr.wf hE5.wf) hr5 (by have:=Hl.out;have:=Hn.out;omega));clear hv h1 g0 g1 g2 a0 a1 a2 b0 b1 b2;go_wp2_with fail
    first
     | refine (hd.out _ (AA.refl _ _)).mono ?_
     | (refine Fc 6 (by kernel_rfl) (by kernel_rfl) ?_
        simp only [CR,DW,CT,BV];repeat (go_big_quiet_step (fail))
        refine wpQuiet_nil ?_;go_wp2_with fail
        refine (hd.out _ (AA.drew [] _)).mono ?_)
    rintro e W6 ⟨r4,S5,rfl,hE6,k6,x6,n6,hr6⟩;go_wp2_with fail
    refine ⟨⟨r4,j+1,S5,rfl,by simp,by omega,hE6,((hk.trans ((AA.drew [] _).mono (by simp))).trans k3).trans ((k4.trans k5).trans (by first | exact k6 | exact ((AA.drew [] _).mono (by simp)).trans k6)),hx.trans ((x3.trans x4).trans (x5.trans x6)),by have:=Hn.out;push_cast;omega,hr6.1,fun σ=>?_⟩,by simp only [intOf];omega⟩;rw [hr6.2];constructor
    ·rintro ⟨h2,h3⟩ i hi;by_cases e:i<j
     ·exact h2 i e
     ·have:i=j:=(by omega);subst this;exact Classical.not_not.1 h3
    ·exact fun h2=>⟨fun i hi=>h2 i (by omega),fun h3=>h3 (h2 j (by omega))⟩
  ·have hjI:¬ (j:Int)<3:=(by omega);have e:j=3:=(by omega);subst e;go_wp2_with fail
   go_ret
   exact ⟨r,S1,rfl,hEr,(kA.mono (by simp)).trans hk,hx,by omega,hr.1,fun σ=>by rw [hr.2,hEq]⟩
def ID (w:World) (g:Nat) (ts:List BN):Prop:=g<w.heap.size∧∀ (j:Nat) (t:BN),ts[j]?=some t→w.cell? ⟨g,j * 2,none⟩=some (.bool t.isVar)∧w.cell? ⟨g,j * 2+1,none⟩=some (.int .i64 t.num)
theorem ID.keeps {w w':World} {g:Nat} {ts:List BN} {T:List Nat} (h:ID w g ts) (k:AA T w w') (hg:g∉T:=by simp):ID w' g ts:=
 ⟨A4 h.1 k.size,fun j t hj=>by rw [FF k h.1 hg,FF k h.1 hg];exact h.2 j t hj⟩
def Iy (S:ST) (bys:List Int) (Gs:List ((Int→Bool)→Bool)):Prop:=bys.length=Gs.length∧∀ (i:Nat) (b:Int) (G:(Int→Bool)→Bool),bys[i]?=some b→Gs[i]?=some G→GL S b (fun σ=>G σ=true)
theorem Iy.ext {S S':ST} {bys:List Int} {Gs:List ((Int→Bool)→Bool)} (h:Iy S bys Gs) (x:EK S S') (hw:WF S) (hw':WF S'):Iy S' bys Gs:=⟨h.1,fun i b G h1 h2=>(h.2 i b G h1 h2).ext x hw hw'⟩
theorem Iy.snoc {S:ST} {bys:List Int} {Gs:List ((Int→Bool)→Bool)} (h:Iy S bys Gs) {b:Int} {G:(Int→Bool)→Bool} (hb:GL S b (fun σ=>G σ=true)):Iy S (bys++[b]) (Gs++[G]):=by
 refine ⟨by simp [h.1],fun i b' G' h1 h2=>?_⟩;rcases Nat.lt_trichotomy i bys.length with hi | hi | hi
 ·rw [Az hi] at h1;rw [Az (by rw [←h.1];exact hi)] at h2;exact h.2 i b' G' h1 h2
 ·subst hi;rw [Av (AQ _)] at h1;rw [h.1,Av (AQ _)] at h2;simp at h1 h2;subst h1 h2;exact hb
 ·rw [Af (by simp;omega)] at h1;cases h1
theorem Iy.ok {S:ST} {bys:List Int} {Gs:List ((Int→Bool)→Bool)} (h:Iy S bys Gs):∀ b∈bys,S.ok b:=fun b hb=>by
 obtain ⟨i,hi,rfl⟩:=A0 hb;exact (h.2 i _ _ (AB hi) (AB (by rw [←h.1];exact hi))).1
theorem Iy.val {S:ST} {bys:List Int} {Gs:List ((Int→Bool)→Bool)} (h:Iy S bys Gs) {i:Nat} {G:(Int→Bool)→Bool} (hi:Gs[i]?=some G) (σ:Int→Bool):Zp S bys σ (i:Int)=G σ:=by
 have hl:i<bys.length:=by rw [h.1];exact (AL.1 hi).1
 unfold Zp;rw [BE,AB hl,BU];exact Bg.2 ((h.2 i _ G (AB hl) hi).2 σ)
def fQ (t:BN):List ((Int→Bool)→Bool):=[fun σ=>Np σ t 0,fun σ=>Np σ t 1,fun σ=>Np σ t 2]
def YU (ts:List BN):List ((Int→Bool)→Bool):=ts.flatMap fQ
theorem fY (ts:List BN):(YU ts).length=3 * ts.length:=by
 induction ts with
 | nil=>rfl
 | cons t ts ih=>
  have e:(YU (t :: ts)).length=3+(YU ts).length:=by simp [YU,fQ];omega
  rw [e,ih,AU];omega
theorem lX {ts:List BN} {p:Nat} {t:BN} (h:ts[p]?=some t) {i:Nat} (hi:i<3):(YU ts)[3 * p+i]?=some (fun σ=>Np σ t i):=by
 induction ts generalizing p with
 | nil=>simp at h
 | cons y ts ih=>
  have e:YU (y :: ts)=fQ y++YU ts:=by simp [YU]
  cases p with
  | zero=>
   simp at h;subst h;rw [e,Az (by simp [fQ];omega)];match i with
   | 0=>rfl
   | 1=>rfl
   | 2=>rfl
   | i+3=>omega
  | succ p=>
   rw [e,Av (by simp [fQ];omega),show 3 * (p+1)+i - (fQ y).length=3 * p+i by simp [fQ];omega];exact ih (by simpa using h)
theorem QL {τ σ:Int→Bool}:∀ (ts:List BN) (q:Nat),(∀ t∈ts,JQ t)→(∀ (p:Nat) (t:BN),ts[p]?=some t→∀ i,i<3→τ (3 * (q+p)+i:Nat)=Np σ t i)→ED τ q ts.length=ts.map (Km σ)
 | [],_,_,_=>rfl
 | t :: ts,q,hk,h=>by
  simp only [AU,ED,Au];rw [QL ts (q+1) (fun t ht=>hk t (AP _ ht)) fun p t hp i hi=>by rw [show q+1+p=q+(p+1) by omega];exact h (p+1) t (by simpa using hp) i hi];congr 1
  rw [QN σ (hk t (by simp))];unfold F7;have h0:=h 0 t rfl 0 (by omega);have h1:=h 0 t rfl 1 (by omega);have h2:=h 0 t rfl 2 (by omega);simp only [CY] at h0 h1 h2;rw [h0,h1,h2]
theorem TB {w:World} {B:SB} {S:ST} (hE:DB w B S) {bb:Nat} (hb:KY w bb B) {f:Int} (ρ:Int) {g c:Nat} (ts:List BN) (hg:g∉B.own) (hrow:ID w g ts) (htm:∀ t∈ts,JQ t) (h1:0<ts.length) (h4:ts.length≤4) {R:List Nat→Prop} (hf:GW S f ts.length R) (hl:S.next+16769100<GN) :
  Calls prog 262 #[.pointer (some ⟨bb,0,none⟩),.int .i64 f,.agg #[.int .i64 ρ,.slice (some ⟨g,0,none⟩) ts.length c]] w (JR B w S (fun σ=>R (ts.map (Km σ))) 16769037):=by
 obtain ⟨i0,hi0,hz0,hz1,hz2⟩:=info_parts MD;have kA:=AA.alloc [] w (.cells #[.int .i64 ρ,.slice (some ⟨g,0,none⟩) ts.length c] 151);have hE1:=hE.keeps0 kA;have hb1:=hb.keeps kA;have hr1:=hrow.keeps kA;have hsz:=AX w (.cells #[.int .i64 ρ,.slice (some ⟨g,0,none⟩) ts.length c] 151);have Hl:=AD hl;have Hfr:=AD (fun j (hj:w.heap.size≤j)=>hE.sat.fresh hj);clear hl;go_in
 go_wp2_with fail
 generalize w.alloc (.cells #[.int .i64 ρ,.slice (some ⟨g,0,none⟩) ts.length c] 151)=W at *;have Hz:=AD hsz;clear hsz;generalize hzz:w.heap.size=z at *;go_loopw [7,14] (fun x y wr=>∃ (j:Nat) (bys:List Int) (S1:ST),y=.int .i64 j∧j≤ts.length∧DB wr B S1∧AA B.own w wr∧EK S S1∧S1.next≤S.next+3 * j∧Iy S1 bys (YU (ts.take j))∧Hid (wr.ownsRow z 3 1 x (3 * j) (ints bys))) (fun _ y _=>((ts.length:Int) - intOf y).toNat)
 case atStart=>exact ⟨0,[],S,rfl,by omega,hE1,kA.mono (by simp),EK.refl S,by omega,⟨rfl,fun i b G h=>by simp at h⟩,AD ⟨rfl,.inl ⟨rfl,rfl⟩⟩⟩
 case round=>
  obtain ⟨j,bys,S1,rfl,hj,hEr,hk,hx,hn,hby,hown⟩:=hrel;have hbr:=hb.own hk;have hrr:=hrow.keeps hk hg;by_cases hjl:j<ts.length
  ·have hjI:(j:Int)<ts.length:=(by omega);rename World=>wo;obtain ⟨t,ht⟩:∃ t,ts[j]?=some t:=⟨_,AB hjl⟩;obtain ⟨g1,g2⟩:=hrr.2 j t ht;have htk:ts.take (j+1)=ts.take j++[t]:=by rw [An,ht];rfl
   have htb:YU (ts.take (j+1))=YU (ts.take j)++fQ t:=by rw [htk];simp [YU]
   have hto:=htm t (AE ht);obtain ⟨v,m⟩:=t;simp only at g1 g2;have kB:=AA.alloc [] wo (.cells #[.bool v,.int .i64 m] 220);have hEb:=hEr.keeps0 kB;have hbb:=hbr.keeps kB;have hTb:=AK.new wo #[.bool v,.int .i64 m] 220;have hob:=AD (AH hown.out kB);have hne:∀ q,Value.ownBlock u7=some q→q≠wo.heap.size:=fun q hq=>by have:=(World.ownsRow.lt hown.out q hq).2;omega
   have Hne:=AD hne;have hwz:z≤wo.heap.size:=by have:=hk.size;omega
   have hsb:=AX wo (.cells #[.bool v,.int .i64 m] 220);have Hn:=AD hn;have Htb:=AD htb;have Hto:=AD hto;have Hwr:=AD hwz;have Hsb:=AD hsb;clear hn htb htk ht hto hwz hsb hown hne;go_wp2_with fail
   generalize hWb:wo.alloc (.cells #[.bool v,.int .i64 m] 220)=Wb at *;generalize hyb:wo.heap.size=yb at *;go_loopw [7,18] (fun x y wr=>∃ (i:Nat) (bs:List Int) (S2:ST),y=.int .i64 i∧i≤3∧DB wr B S2∧AA B.own w wr∧AK wr yb #[.bool v,.int .i64 m]∧(∀ q,Value.ownBlock x=some q→q≠yb)∧EK S1 S2∧S2.next≤S1.next+i∧Iy S2 bs (YU (ts.take j)++(fQ ⟨v,m⟩).take i)∧Hid (wr.ownsRow z 3 1 x (3 * j+i) (ints bs))) (fun _ y _=>((3:Int) - intOf y).toNat)
   case atStart=>exact ⟨0,bys,S1,rfl,by omega,hEb,hk.trans (kB.mono (by simp)),hTb,Hne.out,EK.refl S1,by omega,by simpa using hby,hob⟩
   case round=>
    obtain ⟨i,bs,S2,rfl,hi,hEi,hki,hTi,hnei,hxi,hni,hbi,howi⟩:=hrel;have Hnei:=AD hnei;clear hnei;by_cases hi3:i<3
    ·have hiI:(i:Int)<3:=(by omega);have q0:=hTi.cell 0;have q1:=hTi.cell 1;simp at q0 q1;have hbt:=AD (Qx hEi (hb.own hki) ⟨v,m⟩ Hto.out i hi3 (by have:=Hl.out;have:=Hn.out;omega));simp only [nJ] at hbt;have Hni:=AD hni;clear hni;go_wp2_with fail
     refine hbt.out.mono ?_;rintro e W3 ⟨y,S3,rfl,hE3,k3,x3,n3,hr3⟩;have hlow:∀ q,Value.ownBlock u7=some q→q∉B.own:=fun q hq=>Hfr.out q (As howi.out q hq).1;have ho3:=AH howi.out k3 hlow;have kC:=AA.alloc [] W3 (.cells #[.int .i64 y] 3);have hoC:=AH ho3 kC;have hsz3:z≤(W3.alloc (.cells #[.int .i64 y] 3)).heap.size:=by rw [AX];have:=k3.size;have:=hki.size;omega
     have hone:=Ik (W:=W3) (y:=y);have hbl:=hbi.1;clear hbt q0 q1;go_wp2_with (at_builtin;refine wpList_append_own_at _ rfl _ _ 40 rfl z 3 i0 (.int .i64 0) 1 8 underlying40 hi0 hz0 hz1 hz2 rfl (by decide) _ (3 * j+i) (ints bs) rfl hoC ⟨W3.heap.size,0,none⟩ 1 1 (ints [y]) rfl (by simp [ints]) hone (FP _) (by unfold maxLen;omega) (by omega) hsz3 ?_)
     intro v' W4 hown4 hgrow4 hnil4 hat4;have k4:=grownBy_keeps' hgrow4 (Value.ownBlock u7).toList (fun r e=>.inl (by simp [e]));have hlT:∀ q∈B.own,q∉(Value.ownBlock u7).toList:=fun q hq hx=>hlow q (by simpa using hx) hq;have hE4:=(hE3.keeps0 kC).keeps k4 hlT;have k34:AA B.own w W4:=((hki.trans k3).trans (kC.mono (by simp))).trans_new k4 (fun q hq=>.inr (by rw [hzz];exact (As howi.out q (by simpa using hq)).1));have hT4:=((hTi.keeps k3 (Hfr.out _ Hwr.out)).keeps kC).keeps k4 (fun hq=>Hnei.out _ (by simpa using hq) rfl);have hyl:yb<W3.heap.size:=(hTi.keeps k3 (Hfr.out _ Hwr.out)).lt;have hne4:∀ q,Value.ownBlock v' = some q→q≠yb:=fun q hq=>by
      rcases hat4 with e | e
      ·rw [e] at hq;exact Hnei.out q hq
      ·rw [e] at hq;have:=Ar hq;omega
     have Hne4:=AD hne4;have h3e:(fQ ⟨v,m⟩)[i]?=some (fun σ=>Np σ ⟨v,m⟩ i):=by
      match i with
      | 0=>rfl
      | 1=>rfl
      | 2=>rfl
      | i+3=>omega
     have H3e:=AD h3e;have Hown4:=AD hown4;clear h3e hown4 hgrow4 hnil4 hat4 hone hsz3 hoC ho3 hne4 hyl;go_wp2_with fail
     go_roundw
     ·refine ⟨i+1,bs++[y],S3,by simp,by omega,hE4,k34,hT4,Hne4.out,hxi.trans x3,by have:=Hni.out;push_cast;omega,?_,AD ?_⟩
      ·rw [An,H3e.out,←Ab];exact (hbi.ext x3 hEi.wf hE3.wf).snoc hr3
      ·have:=Hown4.out;simpa [ints,Nat.add_assoc] using this
     ·simp only [intOf];omega
    ·have hiI:¬ (i:Int)<3:=(by omega);have e:i=3:=(by omega);subst e;have Hni:=AD hni;clear hni;go_wp2_with fail
     go_roundw
     ·refine ⟨j+1,bs,S2,by simp,by omega,hEi,hki,hx.trans hxi,by have:=Hni.out;have:=Hn.out;push_cast;omega,?_,?_⟩
      ·rw [Htb.out];exact hbi
      ·exact AD howi.out
     ·simp only [intOf];omega
  ·have hjI:¬ (j:Int)<ts.length:=(by omega);have e:j=ts.length:=(by omega);subst e;rw [Bp] at hby;have hbl:bys.length=3 * ts.length:=(by rw [hby.1,fY]);rw [←hbl] at hown;obtain ⟨gb,cb,hv,hgb,hrb,_⟩:=Ke hown.out (by omega);subst hv;have Hby:=AD hby;have hs:=AD (XP (ct:=cb) hEr (k:=3 * ts.length) (hx.ok hf.1) (hf.hk.ext hx hE.wf hEr.wf hf.1) hrb (Hfr.out _ hgb) (by omega) hby.ok (by have:=Hl.out;omega));have g0:=hbr.cell;have Hn:=AD hn;clear hn hown hbl hby hrb;go_wp2_with fail
   refine hs.out.mono ?_;rintro e W3 ⟨r,S3,rfl,hE3,k3,x3,n3,hr3⟩;go_wp2_with fail
   go_ret
   refine ⟨r,S3,rfl,hE3,hk.trans k3,hx.trans x3,by have:=Hn.out;omega,hr3.1,fun σ=>?_⟩;rw [hr3.2];show S1.den f (Zp S1 bys σ)=true↔R (ts.map (Km σ));rw [hx.den hE.wf hEr.wf hf.1,hf.2,QL (σ:=σ) ts 0 htm];intro p t hp i hi;rw [Ag];exact Hby.out.val (lX hp hi) σ
def Xo (v:Nat) (t:BN):Bool:=t.isVar && decide (t.num=(v:Int))
def Db (ts:List BN) (v:Nat):Int:=match ts.findIdx? (Xo v) with
 | some p=>(p:Int)
 | none=>-1
theorem Ud {w:World} {g c:Nat} (ts:List BN) (hrow:ID w g ts) (h4:ts.length≤4) (v:Nat) :
  Calls prog 209 #[.slice (some ⟨g,0,none⟩) ts.length c,.agg #[.bool true,.int .i64 (v:Int)]] w fun e w'=>e=.returned (.int .i64 (Db ts v))∧AA [] w w':=by
 have kA:=AA.alloc [] w (.cells #[.bool true,.int .i64 (v:Int)] 220);have hT:=AK.new w #[.bool true,.int .i64 (v:Int)] 220;have hr1:=hrow.keeps kA;go_in
 go_wp2_with fail
 generalize w.alloc (.cells #[.bool true,.int .i64 (v:Int)] 220)=W at *;generalize w.heap.size=z at *;go_loopw [8] (fun y wr=>∃ j:Nat,y=.int .i64 j∧j≤ts.length∧AA [] W wr∧∀ p,p<j→∀ t,ts[p]?=some t→Xo v t=false) (fun y _=>((ts.length:Int) - intOf y).toNat)
 case atStart=>exact ⟨0,rfl,by omega,AA.refl _ _,fun p h=>by omega⟩
 case round=>
  obtain ⟨j,rfl,hj,hk,hno⟩:=hrel;have hTr:=hT.keeps hk;have hrr:=hr1.keeps hk;have Hno:=AD hno;clear hno;have q0:=hTr.cell 0;have q1:=hTr.cell 1;simp at q0 q1;by_cases hjl:j<ts.length
  ·have hjI:(j:Int)<ts.length:=(by omega);obtain ⟨t,ht⟩:∃ t,ts[j]?=some t:=⟨_,AB hjl⟩;obtain ⟨g1,g2⟩:=hrr.2 j t ht;have Ht:=AD ht;clear ht;cases hm:Xo v t with
   | true=>
    obtain ⟨b,m⟩:=t;simp only [Xo,A1,decide_eq_true_eq] at hm g1 g2;obtain ⟨rfl,rfl⟩:=hm;go_wp2_with fail
    go_quiet (fail)
    go_wp2_with fail
    go_ret
    refine ⟨?_,(kA.trans hk).trans (AA.drewN _ _ _)⟩;have e:ts.findIdx? (Xo v)=some j:=by
     rw [Cc];refine ⟨hjl,?_,fun p hp=>?_⟩
     ·have:=(AL.1 Ht.out).2;rw [this];simp [Xo]
     ·have:=Hno.out p hp _ (AB (by omega));simp [this]
    unfold Db;rw [e];rfl
   | false=>
    obtain ⟨b,m⟩:=t;simp only at g1 g2;have Hm:=AD hm;have hnx:∀ p,p<j+1→∀ t,ts[p]?=some t→Xo v t=false:=fun p hp t h=>by
     by_cases e:p<j
     ·exact Hno.out p e t h
     ·have e2:p=j:=(by omega);subst e2;rw [Ht.out] at h;cases h;exact Hm.out
    have Hnx:=AD hnx;clear hm hnx;cases b with
    | true=>
     have hne:((v:Int) == m)=false:=by
      have:=Hm.out;simp only [Xo,Bool.true_and,decide_eq_false_iff_not] at this;simpa using fun h:(v:Int)=m=>this h.symm
     go_wp2_with fail
     go_quiet (fail)
     go_wp2_with fail
     go_roundw
     ·exact ⟨j+1,by simp,by omega,hk.trans (AA.drewN _ _ _),Hnx.out⟩
     ·simp only [intOf];omega
    | false=>
     go_wp2_with fail
     go_quiet (fail)
     go_wp2_with fail
     go_roundw
     ·exact ⟨j+1,by simp,by omega,hk.trans (AA.drewN _ _ _),Hnx.out⟩
     ·simp only [intOf];omega
  ·have hjI:¬ (j:Int)<ts.length:=(by omega);have e:j=ts.length:=(by omega);subst e;go_wp2_with fail
   go_ret
   refine ⟨?_,kA.trans hk⟩;have e:ts.findIdx? (Xo v)=none:=by
    rw [Ct];intro t ht;obtain ⟨p,hp,rfl⟩:=A0 ht;exact Hno.out p hp _ (AB hp)
   unfold Db;rw [e];rfl
def fcA (ts:List BN) (j:Nat):Array Value:=#[.int .i64 (if 0<j then Db ts 0 else 0),.int .i64 (if 1<j then Db ts 1 else 0),.int .i64 (if 2<j then Db ts 2 else 0),.int .i64 (if 3<j then Db ts 3 else 0)]
theorem dN (ts:List BN) {j:Nat} (h:j<4):(fcA ts j)[j]?=some (.int .i64 0):=by
 match j with
 | 0=>rfl
 | 1=>rfl
 | 2=>rfl
 | 3=>rfl
 | j+4=>omega
theorem jJ (ts:List BN) {j:Nat} (h:j<4):(fcA ts j).setIfInBounds j (.int .i64 (Db ts j))=fcA ts (j+1):=by
 match j with
 | 0=>rfl
 | 1=>rfl
 | 2=>rfl
 | 3=>rfl
 | j+4=>omega
structure RsA (w:World) (r:Nat) (a0 a1 a2 a3 x0 x1 x2 x3:Value):Prop where
 c0:w.cell? ⟨r,0,none⟩=some a0
 f0:w.frozen? ⟨r,0,none⟩=false
 c1:(w.setCell ⟨r,0,none⟩ x0).cell? ⟨r,1,none⟩=some a1
 f1:(w.setCell ⟨r,0,none⟩ x0).frozen? ⟨r,1,none⟩=false
 c2:((w.setCell ⟨r,0,none⟩ x0).setCell ⟨r,1,none⟩ x1).cell? ⟨r,2,none⟩=some a2
 f2:((w.setCell ⟨r,0,none⟩ x0).setCell ⟨r,1,none⟩ x1).frozen? ⟨r,2,none⟩=false
 c3:(((w.setCell ⟨r,0,none⟩ x0).setCell ⟨r,1,none⟩ x1).setCell ⟨r,2,none⟩ x2).cell? ⟨r,3,none⟩=some a3
 f3:(((w.setCell ⟨r,0,none⟩ x0).setCell ⟨r,1,none⟩ x1).setCell ⟨r,2,none⟩ x2).frozen? ⟨r,3,none⟩=false
 at_:AK ((((w.setCell ⟨r,0,none⟩ x0).setCell ⟨r,1,none⟩ x1).setCell ⟨r,2,none⟩ x2).setCell ⟨r,3,none⟩ x3) r #[x0,x1,x2,x3]
 keeps:AA [r] w ((((w.setCell ⟨r,0,none⟩ x0).setCell ⟨r,1,none⟩ x1).setCell ⟨r,2,none⟩ x2).setCell ⟨r,3,none⟩ x3)
theorem rsA {w:World} {r:Nat} {a0 a1 a2 a3:Value} (h:AK w r #[a0,a1,a2,a3]) (x0 x1 x2 x3:Value):RsA w r a0 a1 a2 a3 x0 x1 x2 x3:=by
 have h1:=h.setCell 0 x0;have h2:=h1.setCell 1 x1;have h3:=h2.setCell 2 x2;have h4:=h3.setCell 3 x3;exact ⟨h.cell 0,h.frozen 0,h1.cell 1,h1.frozen 1,h2.cell 2,h2.frozen 2,h3.cell 3,h3.frozen 3,h4,(((AA.setCell w ⟨r,0,none⟩ x0).trans (AA.setCell _ ⟨r,1,none⟩ x1)).trans (AA.setCell _ ⟨r,2,none⟩ x2)).trans (AA.setCell _ ⟨r,3,none⟩ x3)⟩
theorem Up {w:World} {g c:Nat} (ρ:Int) (ts:List BN) (hrow:ID w g ts) (h4:ts.length≤4) :
  Calls prog 142 #[.agg #[.int .i64 ρ,.slice (some ⟨g,0,none⟩) ts.length c]] w fun e w'=>e=.returned (.agg #[.int .i64 (Db ts 0),.int .i64 (Db ts 1),.int .i64 (Db ts 2),.int .i64 (Db ts 3)])∧AA [] w w':=by
 have kA:=AA.alloc [] w (.cells #[.int .i64 ρ,.slice (some ⟨g,0,none⟩) ts.length c] 151);have hA:=AK.new w #[.int .i64 ρ,.slice (some ⟨g,0,none⟩) ts.length c] 151;generalize hW1:w.alloc (.cells #[.int .i64 ρ,.slice (some ⟨g,0,none⟩) ts.length c] 151)=W1 at kA hA;have hs1:W1.heap.size=w.heap.size+1:=by rw [←hW1];exact AX _ _
 have kB:=AA.alloc [] W1 (.cells #[.int .i64 0,.int .i64 0,.int .i64 0,.int .i64 0] 216);have hB:=AK.new W1 #[.int .i64 0,.int .i64 0,.int .i64 0,.int .i64 0] 216;generalize hW2:W1.alloc (.cells #[.int .i64 0,.int .i64 0,.int .i64 0,.int .i64 0] 216)=W2 at kB hB;have hs2:W2.heap.size=w.heap.size+1+1:=by rw [←hW2,←hs1];exact AX _ _
 have kC:=AA.alloc [] W2 (.cells #[.int .i64 0,.int .i64 0,.int .i64 0,.int .i64 0] 216);have hC:=AK.new W2 #[.int .i64 0,.int .i64 0,.int .i64 0,.int .i64 0] 216;generalize hW3:W2.alloc (.cells #[.int .i64 0,.int .i64 0,.int .i64 0,.int .i64 0] 216)=W3 at kC hC;rw [hs1] at hB;rw [hs2] at hC;have hA3:=(hA.keeps kB).keeps kC;have hB3:=hB.keeps kC;have hr3:=((hrow.keeps kA).keeps kB).keeps kC;have kk:=(kA.trans kB).trans kC;have hgl:=hrow.1;go_in
 go_wp2_with fail
 clear hW1 hW2 hW3 hs1 hs2 kA kB kC hA hB;generalize hz:w.heap.size=z at *;go_loopw [5] (fun y wr=>∃ j:Nat,y=.int .i64 j∧j≤4∧AK wr (z+1+1) (fcA ts j)∧AA [z+1+1] W3 wr) (fun y _=>((4:Int) - intOf y).toNat)
 case atStart=>exact ⟨0,rfl,by omega,hC,AA.refl _ _⟩
 case round=>
  obtain ⟨j,rfl,hj,hc,hk⟩:=hrel;have hAr:=hA3.keeps hk (by simp;omega);have hrr:=hr3.keeps hk (by simp;omega);have a1:=hAr.cell 1;simp at a1;by_cases hj4:j<4
  ·have hjI:(j:Int)<4:=(by omega);have hix:=AD (Ud (c:=c) ts hrr h4 j);have c0:wr.cell? ⟨z+1+1,j,none⟩=some (.int .i64 0):=by rw [hc.cell];exact dN ts hj4
   have hnx:=jJ ts hj4;have Hnx:=AD hnx;clear hnx;go_wp2_with fail
   refine hix.out.mono ?_;rintro e W4 ⟨rfl,k4⟩;have hc4:=hc.keeps k4;have c4:W4.cell? ⟨z+1+1,j,none⟩=some (.int .i64 0):=by rw [hc4.cell];exact dN ts hj4
   have f4:=hc4.frozen j;have hs4:=hc4.setCell j (.int .i64 (Db ts j));rw [Hnx.out] at hs4;have kS:=AA.setCell W4 ⟨z+1+1,j,none⟩ (.int .i64 (Db ts j));generalize hF:Db ts j=F at *;go_wp2_with fail
   go_roundw
   ·exact ⟨j+1,by simp,by omega,hs4,(hk.trans (k4.mono (by simp))).trans kS⟩
   ·simp only [intOf];omega
  ·have hjI:¬ (j:Int)<4:=(by omega);have e:j=4:=(by omega);subst e;have b0:=hc.cell 0;have b1:=hc.cell 1;have b2:=hc.cell 2;have b3:=hc.cell 3;simp [fcA] at b0 b1 b2 b3;obtain ⟨r0,p0,r1,p1,r2,p2,r3,p3,hR,kR⟩:=rsA (hB3.keeps hk) (.int .i64 (Db ts 0)) (.int .i64 (Db ts 1)) (.int .i64 (Db ts 2)) (.int .i64 (Db ts 3));have HR:=AD hR;have KR:=AD kR;clear hR kR;generalize hF0:Db ts 0=F0 at *;generalize hF1:Db ts 1=F1 at *;generalize hF2:Db ts 2=F2 at *;generalize hF3:Db ts 3=F3 at *;go_wp2_with fail
   obtain ⟨ty,hty⟩:=HR.out;refine bodyPost_ret (v:=.agg #[.int .i64 F0,.int .i64 F1,.int .i64 F2,.int .i64 F3]) (results_cell_row (p:=2) (ty:=216) (by kernel_rfl) _ _ _ _ _ _ _ rfl hty underlying216 rfl (by kernel_rfl)) rfl ⟨rfl,?_⟩;have hl:∀ i∈[z+1+1],i∈([]:List Nat)∨w.heap.size≤i:=fun i hi=>.inr (by simp at hi;omega);have hl2:∀ i∈[z+1],i∈([]:List Nat)∨w.heap.size≤i:=fun i hi=>.inr (by simp at hi;omega);exact (kk.trans_new hk hl).trans_new KR.out hl2
theorem Vo (a b c d:Int) (i:Nat) (hi:i<4) (w:World):(Instr.index 216 (.agg #[.int .i64 a,.int .i64 b,.int .i64 c,.int .i64 d]) (.int .i64 (i:Int))).run prog w=.ok (.int .i64 ([a,b,c,d].getD i 0)) w:=by
 have hu:=underlying216;match i with
 | 0=>simp [Instr.index,run_underlying hu,go_sem]
 | 1=>simp [Instr.index,run_underlying hu,go_sem]
 | 2=>simp [Instr.index,run_underlying hu,go_sem]
 | 3=>simp [Instr.index,run_underlying hu,go_sem]
 | i+4=>omega
def JV (fc:Nat→Int) (q G:Nat):Prop:=G<2 ^ q∧∀ u,u<q→(G.testBit u=true↔fc (u / 3)<0)
def hG (fc:Nat→Int) (q u:Nat):(Int→Bool)→Bool:=fun σ=>if u<q∧0≤fc (u / 3) then σ (3 * (fc (u / 3)).toNat+u % 3:Nat) else false
def SI (fc:Nat→Int) (q:Nat):List ((Int→Bool)→Bool):=(List.range 12).map (hG fc q)
theorem JV.skip {fc:Nat→Int} {q G:Nat} (h:JV fc q G) (hf:¬ fc (q / 3)<0):JV fc (q+1) G:=by
 refine ⟨A4 h.1 (C6 (by decide) (by omega)),fun u hu=>?_⟩;by_cases e:u<q
 ·exact h.2 u e
 ·have:u=q:=by omega
  subst this;rw [Nat.testBit_lt_two_pow h.1];simp;omega
theorem JV.add {fc:Nat→Int} {q G:Nat} (h:JV fc q G) (hf:fc (q / 3)<0):JV fc (q+1) (G+2 ^ q):=by
 have e:G+2 ^ q=2 ^ q * 1+G:=by rw [Nat.mul_one,Nat.add_comm]
 have h1:=h.1;refine ⟨by rw [CX];omega,fun u hu=>?_⟩;rw [e,Nat.testBit_two_pow_mul_add _ h.1];by_cases e:u<q
 ·rw [if_pos e];exact h.2 u e
 ·have:u=q:=by omega
  subst this;rw [if_neg (by omega)];simp [hf]
theorem dI {fc:Nat→Int} {q:Nat} (hf:fc (q / 3)<0):SI fc (q+1)=SI fc q:=by
 unfold SI;refine Bn fun u _=>?_;funext σ
 unfold hG;by_cases e:u=q
 ·subst e;rw [if_neg (by omega),if_neg (by omega)]
 ·have:(u<q+1∧0≤fc (u / 3))↔(u<q∧0≤fc (u / 3)):=by omega
  simp only [this]
theorem Iy.put {S:ST} {bys:List Int} {fc:Nat→Int} {q:Nat} {y:Int} (h:Iy S bys (SI fc q)) (hq:q<12) (hf:¬ fc (q / 3)<0) (hy:GL S y (fun σ=>σ (3 * (fc (q / 3)).toNat+q % 3:Nat)=true)):Iy S (bys.set q y) (SI fc (q+1)):=by
 have hl:bys.length=12:=by rw [h.1];simp [SI]
 refine ⟨by rw [BI,hl];simp [SI],fun i b G h1 h2=>?_⟩;rw [Aw] at h1;by_cases e:q=i
 ·subst e;rw [if_pos rfl,if_pos (by omega)] at h1;have e1:=Ar h1;subst e1;simp only [SI,AW,CS hq,A5,BD] at h2;subst h2;refine ⟨hy.1,fun σ=>?_⟩;rw [hy.2];unfold hG;dsimp only;rw [if_pos (by omega)]
 ·rw [if_neg e] at h1;have hi:i<12:=by have:=(AL.1 h1).1;omega
  refine h.2 i b G h1 ?_;rw [←h2];simp only [SI,AW,CS hi,A5];congr 1
  funext σ
  unfold hG;have:(i<q+1∧0≤fc (i / 3))↔(i<q∧0≤fc (i / 3)):=by omega
  simp only [this]
theorem dH (S:ST) (fc:Nat→Int):Iy S (List.replicate 12 0) (SI fc 0):=by
 refine ⟨by simp [SI],fun i b G h1 h2=>?_⟩;rw [BC] at h1;split at h1
 ·rename_i hi;cases h1;simp only [SI,AW,CS hi,A5,BD] at h2;subst h2;exact ⟨Es S,fun σ=>by simp [CI,hG]⟩
 ·cases h1
theorem LW (n i:Nat) (h:i<n):(madeCells #[.int .i64 0] n)[i]?=some (.int .i64 0):=by
 have:=toList_madeCells_one (.int .i64 0) n;rw [←Cy,this,BC,if_pos h]
theorem Kb (w:World) (n:Nat) (hn:n≤1000):(Instr.makeSlice 40 (.int .i64 (n:Int)) (.int .i64 (n:Int))).run prog w=.ok (.slice (some ⟨w.heap.size,0,none⟩) n n) (w.alloc (.cells (madeCells #[.int .i64 0] n) 3)):=by
 obtain ⟨i0,hi0,hz0,hz1,hz2⟩:=info_parts MD;have:=run_make (P:=prog) w 40 3 i0 (.int .i64 0) underlying40 hi0 hz0 .i64 .i64 n n (by omega) (by omega) (by rw [hz2];omega) (by omega);rw [this,hz1];simp [Value.cells]
theorem SP {ts:List BN} {v:Nat} {p:Nat} (h:Db ts v=p):∃ t,ts[p]?=some t∧t.isVar=true∧t.num=v:=by
 unfold Db at h;cases e:ts.findIdx? (Xo v) with
 | none=>rw [e] at h;simp only at h;omega
 | some q=>
  rw [e] at h;simp only at h;have:q=p:=by omega
  subst this;obtain ⟨h1,h2,_⟩:=Cc.1 e;refine ⟨_,AB h1,?_⟩;simpa [Xo] using h2
theorem SO {ts:List BN} {t:BN} (h:t∈ts) (hv:t.isVar=true) {v:Nat} (hn:t.num=v):∃ p:Nat,Db ts v=p:=by
 unfold Db;cases e:ts.findIdx? (Xo v) with
 | none=>have:=Ct.1 e t h;simp [Xo,hv,hn] at this
 | some q=>exact ⟨q,rfl⟩
theorem dM (ts:List BN) (v:Nat):Db ts v<0∨∃ p:Nat,Db ts v=p:=by
 unfold Db;cases ts.findIdx? (Xo v) with
 | none=>exact .inl (by decide)
 | some q=>exact .inr ⟨q,rfl⟩
theorem B8.keepsE {w w':World} {b:Nat} {xs:List Int} {T:List Nat} (h:B8 w b xs) (k:AA T w w') (hb:b∉T:=by simp):B8 w' b xs:=h.of_heap (k.block b h.lt hb)
theorem B8.setE {w:World} {b:Nat} {xs:List Int} (h:B8 w b xs) (i:Nat) (x:Int):B8 (w.setCell ⟨b,i,none⟩ (.int .i64 x)) b (xs.set i x):=by
 obtain ⟨cs,h1,h2⟩:=h;refine ⟨_,h1.setCell i _,fun j y hy=>?_⟩;rw [Aw] at hy;by_cases e:i=j
 ·subst e;by_cases hi:i<xs.length
  ·simp only [if_true,hi,BD] at hy;subst hy;have:=h2 i _ (AB hi);have hs:i<cs.size:=(AO.1 this).1;simp [hs]
  ·simp [hi] at hy
 ·rw [if_neg e] at hy;have:=h2 j y hy;rw [AZ,if_neg e];exact this
theorem B8.frozenE {w:World} {b:Nat} {xs:List Int} (h:B8 w b xs) (i:Nat):w.frozen? ⟨b,i,none⟩=false:=by
 obtain ⟨cs,h1,_⟩:=h;exact h1.frozen i
def Pj (ts:List BN) (R:List Nat→Prop) (σ:Int→Bool):Prop:=(∃ τ:Int→Bool,(∀ u:Nat,u<12→0≤Db ts (u / 3)→τ u=σ (3 * (Db ts (u / 3)).toNat+u % 3:Nat))∧R (ED τ 0 4))
def QB (ts:List BN) (t:BN):BN:=if t.isVar then ⟨true,Db ts t.num.toNat⟩ else t
def YA (ts:List BN) (R:List Nat→Prop) (j:Nat) (σ:Int→Bool):Prop:=Pj ts R σ∧∀ (p:Nat) (t:BN),p<j→ts[p]?=some t→F7 σ p=Km σ (QB ts t)
theorem O5 {ts:List BN} {R:List Nat→Prop} {j:Nat} {t t':BN} {σ:Int→Bool} (ht:ts[j]?=some t) (hc:QB ts t=t'):(YA ts R j σ∧F7 σ j=Km σ t')↔YA ts R (j+1) σ:=by
 constructor
 ·rintro ⟨⟨h1,h2⟩,h3⟩;refine ⟨h1,fun p u hp hu=>?_⟩;by_cases e:p<j
  ·exact h2 p u e hu
  ·have:p=j:=(by omega);subst this;rw [ht] at hu;cases hu;rw [hc];exact h3
 ·exact fun h=>⟨⟨h.1,fun p u hp hu=>h.2 p u (by omega) hu⟩,by rw [←hc];exact h.2 j t (by omega) ht⟩
theorem jF (a b c d:Int) {v:Nat} (h:v<4):(#[Value.int .i64 a,.int .i64 b,.int .i64 c,.int .i64 d]:Array Value)[v]?=some (.int .i64 ([a,b,c,d].getD v 0)):=by
 match v with
 | 0=>rfl
 | 1=>rfl
 | 2=>rfl
 | 3=>rfl
 | v+4=>omega
theorem AA.drop {b:Nat} {T:List Nat} {w w':World} (k:AA (b :: T) w w') (hb:w.heap.size≤b):AA T w w':=
 ⟨k.os,k.tape,k.output,k.size,fun i hi hn=>k.block i hi (By (by omega) hn)⟩
theorem ZO {ts:List BN} {R:List Nat→Prop} {G:Nat} {bys:List Int} {S:ST} {σ:Int→Bool} (hg:JV (Db ts) 12 G) (hby:Iy S bys (SI (Db ts) 12)):(∃ τ:Int→Bool,(∀ v:Nat,v<12→G.testBit v=false→τ v=Zp S bys σ v)∧R (ED τ 0 4))↔Pj ts R σ:=by
 have key:∀ v:Nat,v<12→Zp S bys σ v=hG (Db ts) 12 v σ:=fun v hv=>hby.val (by simp [SI,hv]) σ;have hb:∀ v:Nat,v<12→(G.testBit v=false↔0≤Db ts (v / 3)):=fun v hv=>by
  have:=hg.2 v hv;rw [←Bool.not_eq_true,this];omega
 unfold Pj;constructor
 ·rintro ⟨τ,h1,h2⟩;refine ⟨τ,fun u hu h0=>?_,h2⟩;rw [h1 u hu ((hb u hu).2 h0),key u hu];unfold hG;rw [if_pos ⟨hu,h0⟩]
 ·rintro ⟨τ,h1,h2⟩;refine ⟨τ,fun u hu h0=>?_,h2⟩;have h0':=(hb u hu).1 h0;rw [h1 u hu h0',key u hu];unfold hG;rw [if_pos ⟨hu,h0'⟩]
theorem Ue {w:World} {B:SB} {S:ST} (hE:DB w B S) {bb:Nat} (hb:KY w bb B) {f:Int} (ρ:Int) {g c:Nat} (ts:List BN) (hg:g∉B.own) (hrow:ID w g ts) (htm:∀ t∈ts,JQ t) (h4:ts.length≤3) {R:List Nat→Prop} (hf:GW S f 4 R) (hl:S.next+33800000<GN) :
  Calls prog 74 #[.pointer (some ⟨bb,0,none⟩),.int .i64 f,.agg #[.int .i64 ρ,.slice (some ⟨g,0,none⟩) ts.length c]] w (JR B w S (fun σ=>Pj ts R σ∧∀ (p:Nat) (t:BN),ts[p]?=some t→F7 σ p=Km σ (QB ts t)) 33700000):=by
 have hfc:=AD (fun (W:World) (k:AA [] w W)=>Up (c:=c) ρ ts (hrow.keeps k) (by omega));have kA:=AA.alloc [] w (.cells #[.int .i64 ρ,.slice (some ⟨g,0,none⟩) ts.length c] 151);have hA:=AK.new w #[.int .i64 ρ,.slice (some ⟨g,0,none⟩) ts.length c] 151;have hsA:=AX w (.cells #[.int .i64 ρ,.slice (some ⟨g,0,none⟩) ts.length c] 151);have Hl:=AD hl;have Hfr:=AD (fun j (hj:w.heap.size≤j)=>hE.sat.fresh hj);have hidx:Hid (∀ v,v<4→[Db ts 0,Db ts 1,Db ts 2,Db ts 3].getD v 0=Db ts v):=fun v hv=>by
  match v with
  | 0=>rfl
  | 1=>rfl
  | 2=>rfl
  | 3=>rfl
  | v+4=>omega
 generalize Db ts 0=F0 at hfc hidx;generalize Db ts 1=F1 at hfc hidx;generalize Db ts 2=F2 at hfc hidx;generalize Db ts 3=F3 at hfc hidx;clear hl;go_in
 go_wp2_with fail
 generalize hWA:w.alloc (.cells #[.int .i64 ρ,.slice (some ⟨g,0,none⟩) ts.length c] 151)=WA at kA hA hsA ⊢;refine (hfc.out _ kA).mono ?_;rintro e W1 ⟨rfl,k1⟩;have kB:=AA.alloc [] W1 (.cells #[.int .i64 F0,.int .i64 F1,.int .i64 F2,.int .i64 F3] 216);have hB:=AK.new W1 #[.int .i64 F0,.int .i64 F1,.int .i64 F2,.int .i64 F3] 216;have hsB:=AX W1 (.cells #[.int .i64 F0,.int .i64 F1,.int .i64 F2,.int .i64 F3] 216);have hAB:=(hA.keeps k1).keeps kB;have kkB:=(kA.trans k1).trans kB;have hbB:=hb.keeps kkB;have hEB:=hE.keeps0 kkB;have hcB:=hbB.cell;have hlt1:w.heap.size<W1.heap.size:=by have:=k1.size;omega
 have hvs:=AD (Tu hEB.sat);rw [hEB.n] at hvs;clear hfc hWA hcB;have hcB:=hbB.cell;generalize hWB:W1.alloc (.cells #[.int .i64 F0,.int .i64 F1,.int .i64 F2,.int .i64 F3] 216)=WB at *;have hmk:(Instr.makeSlice 40 (.int .i64 12) (.int .i64 12)).run prog WB=.ok (.slice (some ⟨WB.heap.size,0,none⟩) 12 12) (WB.alloc (.cells (madeCells #[.int .i64 0] 12) 3)):=Kb WB 12 (by omega);have hvs:Hid (Calls prog 143 #[.pointer (some ⟨B.b,0,none⟩)] WB fun e w'=>e=.returned (.int .i64 12)∧w' = WB):=hvs;go_wp2_with fail
 refine hvs.out.mono ?_;rintro e W2 ⟨rfl,rfl⟩;rename World=>WB;have kC:=AA.alloc [] WB (.cells (madeCells #[.int .i64 0] 12) 3);have hC:B8 (WB.alloc (.cells (madeCells #[.int .i64 0] 12) 3)) WB.heap.size (List.replicate 12 0):=by
  refine ⟨_,AK.new _ _ _,fun i x hx=>?_⟩;rw [BC] at hx;split at hx
  ·rename_i hi;cases hx;exact LW _ _ hi
  ·cases hx
 have kk:=kkB.trans kC;have hBC:=hB.keeps kC;have hAC:=hAB.keeps kC;have hEC:=hE.keeps0 kk;have hsz:WB.heap.size=W1.heap.size+1:=hsB;clear hvs hA hAB kkB hbB hEB hcB hWB hB hsB kA kB k1 hsA;generalize WB.alloc (.cells (madeCells #[.int .i64 0] 12) 3)=W2 at *;rw [hsz] at hC hmk;have q0:=hBC.cell 0;have q1:=hBC.cell 1;have q2:=hBC.cell 2;have q3:=hBC.cell 3;simp at q0 q1 q2 q3;generalize hy:W1.heap.size=y at *;clear hsz kC;go_wp2_with fail
 clear hmk q0 q1 q2 q3;go_loopw [9,24] (fun x y' wr=>∃ (v G:Nat) (bys:List Int) (S1:ST),x=.int .i64 G∧y' = .int .i64 v∧v≤4∧DB wr B S1∧AA ((y+1) :: B.own) W2 wr∧EK S S1∧S1.next≤S.next+3 * v∧JV (Db ts) (3 * v) G∧Iy S1 bys (SI (Db ts) (3 * v))∧B8 wr (y+1) bys) (fun _ y' _=>((4:Int) - intOf y').toNat)
 case atStart=>exact ⟨0,0,_,S,rfl,rfl,by omega,hEC,AA.refl _ _,EK.refl S,by omega,⟨by decide,fun u hu=>by omega⟩,dH S _,hC⟩
 case round=>
  obtain ⟨v,G,bys,S1,rfl,rfl,hv,hEr,hk,hx,hn,hG,hby,hrr⟩:=hrel;rename World=>wo;have Hn:=AD hn;clear hn;by_cases hv4:v<4
  ·have hvI:(v:Int)<4:=(by omega);have hix:=fun w=>Vo F0 F1 F2 F3 v hv4 w;rw [hidx.out v hv4] at hix;have hq3:∀ i,i<3→(3 * v+i) / 3=v∧(3 * v+i) % 3=i:=fun i hi=>by omega
   have Hq3:=AD hq3;have hneg:=dM ts v;have HneG:=AD hneg;clear hq3 hneg;generalize hFv:Db ts v=Fv at hix HneG;have HFv:=AD hFv;clear hFv;go_wp2_with fail
   go_loopw [9,28] (fun x y' wr=>∃ (i G:Nat) (bys:List Int) (S2:ST),x=.int .i64 G∧y' = .int .i64 i∧i≤3∧DB wr B S2∧AA ((y+1) :: B.own) W2 wr∧EK S S2∧S2.next≤S.next+(3 * v+i)∧Hid (JV (Db ts) (3 * v+i) G)∧Iy S2 bys (SI (Db ts) (3 * v+i))∧B8 wr (y+1) bys) (fun _ y' _=>((3:Int) - intOf y').toNat)
   case atStart=>exact ⟨0,G,bys,S1,rfl,rfl,by omega,hEr,hk,hx,by have:=Hn.out;omega,hG,hby,hrr⟩
   case round=>
    clear hEr hk hx hG hby hrr Hn;obtain ⟨i,G,bys,S2,rfl,rfl,hi,hEr,hk,hx,hn,hG,hby,hrr⟩:=hrel;have Hn:=AD hn;clear hn;by_cases hi3:i<3
    ·have hiI:(i:Int)<3:=(by omega);obtain ⟨hq1,hq2⟩:=Hq3.out i hi3;obtain ⟨q,hq⟩:∃ q,3 * v+i=q:=⟨_,rfl⟩;have hq12:q<12:=(by omega);have hvc:=AD (fun W=>Eb W v i (by omega) (by omega));rw [hq] at hq1 hq2 hG hby hvc;have Hq:=AD hq;have Hq1:=AD hq1;have Hq2:=AD hq2;have Hfq:Hid (Db ts (q / 3)=Fv):=by rw [hq1];exact HFv.out
     rcases HneG.out with hneg | ⟨p,hp⟩
     ·have hgn:=AD (hG.out.add (by rw [Hfq.out];exact hneg));have hgs:=dI (fc:=Db ts) (q:=q) (by rw [Hfq.out];exact hneg);have Hby:Hid (Iy S2 bys (SI (Db ts) (q+1))):=by rw [hgs];exact hby
      have hor:=Ru hG.out.1 hq12;have hpw:=bC hq12;clear hq hq1 hq2 hgs hby hG;generalize 2 ^ q=A at hor hpw hgn;generalize G+A=G2 at hor hgn;go_wp2_with fail
      refine (hvc.out _).mono ?_;rintro e W5 ⟨rfl,rfl⟩;go_wp2_with fail
      go_roundw
      ·exact ⟨i+1,G2,bys,S2,rfl,by simp,by omega,hEr,hk,hx,by have:=Hn.out;push_cast;omega,by have:=hgn.out;rw [←Hq.out] at this;exact this,by have:=Hby.out;rw [←Hq.out] at this;exact this,hrr⟩
      ·simp only [intOf];omega
     ·subst hp;obtain ⟨tp,htp,_⟩:=SP HFv.out;have hp3:p<3:=by have:=(AL.1 htp).1;omega
      have hdn:decide ((p:Int)<0)=false:=(by simp);have hgn:=AD (hG.out.skip (by rw [Hfq.out];omega));have hvp:=AD (fun W=>Eb W p i (by omega) (by omega));have hvar:=AD (fun (W:World) (k:AA [] wr W)=>Zt (hEr.keeps0 k) (3 * p+i) (by omega) (by have:=Hl.out;have:=Hn.out;omega))
      have hbr:=hb.keeps ((kk.mono (by simp)).trans_new hk (fun j hj=>.inl hj)) (by
       intro hm;rcases AG.1 hm with e | hm
       ·have:=hb.lt;omega
       ·exact hb.no hm)
      have g0:=hbr.cell;have hqI:(q:Int)<12:=(by omega);have hbl:bys.length=12:=by rw [hby.1];simp [SI]
      obtain ⟨zz,hzz⟩:∃ z,bys[q]?=some z:=⟨bys[q]'(by omega),AB _⟩;have hgb:(y+1)∉B.own:=Hfr.out _ (by omega);have Hbl:=AD hbl;have Hzz:=AD hzz;have Hpi:=AD (rfl:3 * p+i=3 * p+i);clear hq hq1 hq2 hG htp hbl hzz;generalize hr:3 * p+i=rr at hvp hvar Hpi;have Hr:=AD hr;clear hr;have hbny:bb∉[y+1]:=by have:=hb.lt;simp;omega
      have h7:=AD (fun (W7:World) (k3:AA B.own wr.drew W7)=>Ak ((hbr.keeps (AA.drew [] wr)).own k3).cell (Ak (((hrr.keepsE (AA.drew [] wr)).keepsE k3 hgb).cell Hzz.out) (Ak (((hrr.keepsE (AA.drew [] wr)).keepsE k3 hgb).frozenE q) (fun v=>(((hbr.keeps (AA.drew [] wr)).own k3).keeps (AA.setCell W7 ⟨y+1,q,none⟩ v) hbny).cell))));go_wp2_with fail
      go_region_held3 (fun w'=>w'.cell? ⟨bb,4,none⟩=some (.pointer (some ⟨B.b,0,none⟩))) (first | exact g0 | exact a0 | exact a3 _)
       (first
       | (go_at_call_of 144 (Value.int IntKind.i64 (v:Int))
          refine (hvc.out _).mono ?_
          rintro e W5 ⟨rfl,rfl⟩)
       | (go_at_call_of 144 (Value.int IntKind.i64 (p:Int))
          refine (hvp.out _).mono ?_
          rintro e W6 ⟨rfl,rfl⟩)
       | (go_at_call 145
          refine (hvar.out _ (AA.drew [] _)).mono ?_;rintro e W7 ⟨r1,S3,rfl,hE3,k3,x3,n3,hr3⟩
          obtain ⟨a0,a1,a2,a3⟩:=h7.out W7 k3))
      all_goals
       have hrw:=(hrr.keepsE (AA.drew [] wr)).keepsE k3 hgb;have Hst:=AD (hrw.setE q r1);have kS:=AA.setCell W7 ⟨y+1,q,none⟩ (.int .i64 r1);have hES:=hE3.keeps kS (fun j hj hm=>hgb (by simp only [AF] at hm;rw [←hm];exact hj));clear hrw;go_wp2_with fail
       go_roundw
       ·refine ⟨i+1,G,bys.set q r1,S3,rfl,by simp,by omega,hES,((hk.trans ((AA.drew [] wr).mono (by simp))).trans (k3.mono (fun j hj=>AP _ hj))).trans (kS.mono (by simp)),hx.trans x3,by have:=Hn.out;push_cast;omega,by have:=hgn.out;rw [←Hq.out] at this;exact this,?_,Hst.out⟩;have:=(hby.ext x3 hEr.wf hE3.wf).put hq12 (by rw [Hfq.out];omega) (by rw [Hfq.out,BE,Hq2.out,Hr.out];exact hr3);rw [←Hq.out] at this ⊢;exact this
       ·simp only [intOf];omega
    ·have hiI:¬ (i:Int)<3:=(by omega);have e:i=3:=(by omega);subst e;go_wp2_with fail
     go_roundw
     ·exact ⟨v+1,G,bys,S2,rfl,by simp,by omega,hEr,hk,hx,by have:=Hn.out;push_cast;omega,hG.out,hby,hrr⟩
     ·simp only [intOf];omega
  ·have hvI:¬ (v:Int)<4:=(by omega);have e:v=4:=(by omega);subst e;have hG12:G<4096:=hG.1;have hgb:(y+1)∉B.own:=Hfr.out _ (by omega);have kw:AA ((y+1) :: B.own) w wo:=(kk.mono (by simp)).trans hk;have hyb:bb∉(y+1) :: B.own:=by
    intro hm;rcases AG.1 hm with e | hm
    ·have:=hb.lt;omega
    ·exact hb.no hm
   have hbr:=hb.keeps kw hyb;have g0:=hbr.cell;have hbl:bys.length=12:=by rw [hby.1];simp [SI]
   have hfr:GL S1 f (fun σ=>R (ED σ 0 4)):=GL.ext ⟨hf.1,hf.2⟩ hx hE.wf hEr.wf;have h1:=AD (fun (W:World) (k:AA [] wo W)=>dR (hEr.keeps0 k) (X:=G) hfr hG12 (by have:=Hl.out;have:=Hn.out;omega));have h2:=AD (fun (W:World) (S3:ST) (r1:Int) (hE3:DB W B S3) (k3:AA B.own wo.drew W) (x3:EK S1 S3) (n3:S3.next≤S1.next+16773120) (ok3:S3.ok r1)=>XP (ct:=12) hE3 (k:=12) ok3 (fun u u0 u1=>by rw [hE3.n] at u1;omega) ((hrr.keepsE (AA.drew [] wo)).keepsE k3 hgb) hgb (by omega) (fun b hb'=>x3.ok (hby.ok b hb')) (by have:=Hl.out;have:=Hn.out;omega));rw [hbl] at h2;have h7:=AD (fun (W7:World) (k3:AA B.own wo.drew W7)=>((hbr.keeps (AA.drew [] wo)).own k3).cell);have HG:=AD hG;have Hby:=AD hby;have Hbl:=AD hbl;clear hG hby hbl hG12;go_wp2_with fail
   go_region_held3 (fun w'=>w'.cell? ⟨bb,4,none⟩=some (.pointer (some ⟨B.b,0,none⟩))) (first | exact g0 | exact a0 | exact a1)
    (first
    | (go_at_call 147
       refine (h1.out _ (AA.drew [] _)).mono ?_;rintro e W5 ⟨r1,S3,rfl,hE3,k3,x3,n3,hr3⟩
       have a0:=h7.out W5 k3)
    | (go_at_call 146
       refine (h2.out _ S3 r1 hE3 k3 x3 n3 hr3.1).mono ?_;rintro e W6 ⟨r2,S4,rfl,hE4,k4,x4,n4,hr4⟩
       have a1:=h7.out W6 (k3.trans k4)))
   all_goals
    have kW:AA ((y+1) :: B.own) W2 W6:=(hk.trans ((AA.drew [] wo).mono (by simp))).trans ((k3.trans k4).mono (fun j hj=>AP _ hj));have hA6:=hAC.keeps kW (By (by omega) (Hfr.out _ (AQ _)));have hB6:=hBC.keeps kW (By (by omega) (Hfr.out _ (by omega)));have kw6:AA ((y+1) :: B.own) w W6:=(kk.mono (by simp)).trans kW;have hr6:=hrow.keeps kw6 (By (by have:=hrow.1;omega) hg);have hb6:=hb.keeps kw6 hyb;have hX:=AD (hx.trans (x3.trans x4));have hN:=AD (show S4.next≤S.next+33542157 by have:=Hn.out;omega)
    have hR4:GL S4 r2 (Pj ts R):=⟨hr4.1,fun σ=>by
     rw [hr4.2];show S3.den r1 (Zp S3 bys σ)=true↔Pj ts R σ;rw [hr3.2]
     exact ZO HG.out (Hby.out.ext x3 hEr.wf hE3.wf)⟩
    have s1:=hA6.cell 1;simp at s1;clear h1 h2 h7 HG Hby Hbl hr3 hr4 hfr hx x3 x4 Hn n3 n4 hbr g0 a0 a1 hrr hC hEC hAC hBC hk k3 k4 hEr hE3;go_wp2_with fail
    go_loopw [1,70] (fun x y' wr=>∃ (j:Nat) (r:Int) (S5:ST),x=.int .i64 r∧y' = .int .i64 j∧j≤ts.length∧DB wr B S5∧AA B.own W6 wr∧EK S4 S5∧S5.next≤S4.next+40956 * j∧GL S5 r (YA ts R j)) (fun _ y' _=>((ts.length:Int) - intOf y').toNat)
    case atStart=>exact ⟨0,r2,S4,rfl,rfl,by omega,hE4,AA.refl _ _,EK.refl S4,by omega,hR4.1,fun σ=>by rw [hR4.2];simp [YA]⟩
    case round=>
     obtain ⟨j,r,S5,rfl,rfl,hj,hEr,hkj,hxj,hn5,hrj⟩:=hrel;have Hn5:=AD hn5;clear hn5 s1;have hbr:=hb6.own hkj;by_cases hjl:j<ts.length
     ·have hjI:(j:Int)<ts.length:=(by omega);have hrr:=hr6.keeps hkj hg;have hBr:=hB6.keeps hkj (Hfr.out _ (by omega));obtain ⟨t,ht⟩:∃ t,ts[j]?=some t:=⟨_,AB hjl⟩;obtain ⟨g1,g2⟩:=hrr.2 j t ht;have hto:=htm t (AE ht);have Htj:=AD ht;have htm':=AE ht;obtain ⟨b,m⟩:=t;obtain ⟨v,rfl⟩:∃ v:Nat,m=v:=Bm hto.1;simp only at g1 g2;cases b with
      | true=>
       have hv4:v<4:=by have:=hto.2.2 rfl;simp only at this;omega
       have hvI:(v:Int)<4:=(by omega);obtain ⟨p,hp⟩:=SO htm' rfl rfl;obtain ⟨tp,htp,_⟩:=SP hp;have hp3:p<3:=by have:=(AL.1 htp).1;omega
       have hcv:wr.cell? ⟨y,v,none⟩=some (.int .i64 (Db ts v)):=by
        rw [hBr.cell,←hidx.out v hv4];exact jF F0 F1 F2 F3 hv4
       have hcv2:(wr.alloc (.cells #[.bool true,.int .i64 (v:Int)] 220)).cell? ⟨y,v,none⟩=some (.int .i64 (Db ts v)):=by rw [FF (AA.alloc [] wr _) hBr.lt (by simp)];exact hcv
       have Hct:Hid (QB ts ⟨true,(v:Int)⟩=⟨true,Db ts v⟩):=(by simp [QB,Hid]);have Hok:Hid (JQ ⟨true,Db ts v⟩):=by rw [hp];exact ⟨by simp only;omega,by simp only;omega,fun _=>by simp only;omega⟩
       clear hp htp ht hto htm';generalize hFv:Db ts v=Fv at hcv hcv2 Hct Hok;clear hFv;have kT:=AA.alloc [] wr (.cells #[.bool true,.int .i64 Fv] 220);have hT:=AK.new wr #[.bool true,.int .i64 Fv] 220;have hzo:wr.heap.size∉B.own:=hEr.sat.fresh (AQ _);have hbT:=hbr.keeps kT;have heq:=AD (Ng (hEr.keeps0 (kT.trans (AA.drew [] _))) (hbT.keeps (AA.drew [] _)) j (by omega) ⟨true,Fv⟩ Hok.out (by have:=Hl.out;have:=hN.out;have:=Hn5.out;omega));simp only [nJ] at heq;generalize hWT:wr.alloc (.cells #[.bool true,.int .i64 Fv] 220)=WT at *;have e0:=hbT.cell;have e1:=hT.cell 0;have e2:=hT.cell 1;simp at e1 e2;go_wp2_with fail
       have h7:=AD (fun (W7:World) (k:AA B.own WT.drew W7)=>Ak ((hbT.keeps (AA.drew [] _)).own k).cell (Ak (((hT.keeps (AA.drew [] _)).keeps k hzo).cell 0) (((hT.keeps (AA.drew [] _)).keeps k hzo).cell 1)))
       go_region_held3 (fun w'=>w'.cell? ⟨bb,4,none⟩=some (.pointer (some ⟨B.b,0,none⟩))∧w'.cell? ⟨wr.heap.size,0,none⟩=some (.bool true)∧w'.cell? ⟨wr.heap.size,1,none⟩=some (.int .i64 Fv)) (first | exact ⟨e0,e1,e2⟩ | exact a7 | exact a8)
        (first
        | (go_at_call 149
           refine heq.out.mono ?_;rintro e W7 ⟨r7,S7,rfl,hE7,k7,x7,n7,hr7⟩
           have a7:=h7.out W7 k7)
        | (go_at_call 148
           refine (eX hE7 (hrj.ext x7 hEr.wf hE7.wf) hr7 (by have:=Hl.out;have:=hN.out;have:=Hn5.out;omega)).mono ?_;rintro e W8 ⟨r8,S8,rfl,hE8,k8,x8,n8,hr8⟩
           have a8:=h7.out W8 (k7.trans k8)))
       all_goals
        go_wp2_with fail
        go_roundw
        ·refine ⟨j+1,r8,S8,rfl,by simp,by omega,hE8,(hkj.trans (((kT.trans (AA.drew [] _)).mono (by simp)).trans k7)).trans k8,hxj.trans (x7.trans x8),by have:=Hn5.out;push_cast;omega,hr8.1,fun σ=>?_⟩;rw [hr8.2];exact O5 Htj.out Hct.out
        ·simp only [intOf];omega
      | false=>
       have Hct:Hid (QB ts ⟨false,(v:Int)⟩=⟨false,(v:Int)⟩):=(by simp [QB,Hid]);have Hok:Hid (JQ ⟨false,(v:Int)⟩):=hto;clear ht hto htm';have kT:=AA.alloc [] wr (.cells #[.bool false,.int .i64 (v:Int)] 220);have hT:=AK.new wr #[.bool false,.int .i64 (v:Int)] 220;have hzo:wr.heap.size∉B.own:=hEr.sat.fresh (AQ _);have hbT:=hbr.keeps kT;have heq:=AD (Ng (hEr.keeps0 (kT.trans (AA.drew [] _))) (hbT.keeps (AA.drew [] _)) j (by omega) ⟨false,(v:Int)⟩ Hok.out (by have:=Hl.out;have:=hN.out;have:=Hn5.out;omega));simp only [nJ] at heq;generalize hWT:wr.alloc (.cells #[.bool false,.int .i64 (v:Int)] 220)=WT at *;have e0:=hbT.cell;have e1:=hT.cell 0;have e2:=hT.cell 1;simp at e1 e2;go_wp2_with fail
       have h7:=AD (fun (W7:World) (k:AA B.own WT.drew W7)=>Ak ((hbT.keeps (AA.drew [] _)).own k).cell (Ak (((hT.keeps (AA.drew [] _)).keeps k hzo).cell 0) (((hT.keeps (AA.drew [] _)).keeps k hzo).cell 1)))
       go_region_held3 (fun w'=>w'.cell? ⟨bb,4,none⟩=some (.pointer (some ⟨B.b,0,none⟩))∧w'.cell? ⟨wr.heap.size,0,none⟩=some (.bool false)∧w'.cell? ⟨wr.heap.size,1,none⟩=some (.int .i64 (v:Int))) (first | exact ⟨e0,e1,e2⟩ | exact a7 | exact a8)
        (first
        | (go_at_call 149
           refine heq.out.mono ?_;rintro e W7 ⟨r7,S7,rfl,hE7,k7,x7,n7,hr7⟩
           have a7:=h7.out W7 k7)
        | (go_at_call 148
           refine (eX hE7 (hrj.ext x7 hEr.wf hE7.wf) hr7 (by have:=Hl.out;have:=hN.out;have:=Hn5.out;omega)).mono ?_;rintro e W8 ⟨r8,S8,rfl,hE8,k8,x8,n8,hr8⟩
           have a8:=h7.out W8 (k7.trans k8)))
       all_goals
        go_wp2_with fail
        go_roundw
        ·refine ⟨j+1,r8,S8,rfl,by simp,by omega,hE8,(hkj.trans (((kT.trans (AA.drew [] _)).mono (by simp)).trans k7)).trans k8,hxj.trans (x7.trans x8),by have:=Hn5.out;push_cast;omega,hr8.1,fun σ=>?_⟩;rw [hr8.2];exact O5 Htj.out Hct.out
        ·simp only [intOf];omega
     ·have hjI:¬ (j:Int)<ts.length:=(by omega);have e:j=ts.length:=(by omega);subst e;go_wp2_with fail
      go_ret
      refine ⟨r,S5,rfl,hEr,?_,hX.out.trans hxj,by have:=hN.out;have:=Hn5.out;omega,hrj.1,fun σ=>?_⟩
      ·exact (kw6.trans (hkj.mono (fun q hq=>AP _ hq))).drop (by omega)
      ·rw [hrj.2];exact ⟨fun h=>⟨h.1,fun p t hp=>h.2 p t (AL.1 hp).1 hp⟩,fun h=>⟨h.1,fun p t _ hp=>h.2 p t hp⟩⟩
def Ia (ρ:List Nat) (t:BN):Nat:=if t.isVar then ρ.getD t.num.toNat 0 else t.num.toNat
theorem JR.iff {B:SB} {w:World} {S:ST} {F G:(Int→Bool)→Prop} {c:Int} {e:Ending} {w':World} (h:JR B w S F c e w') (hi:∀ σ,F σ↔G σ):JR B w S G c e w':=by
 obtain ⟨r,S',h1,h2,h3,h4,h5,h6,h7⟩:=h;exact ⟨r,S',h1,h2,h3,h4,h5,h6,fun σ=>by rw [h7,hi]⟩
theorem iH (σ:Int→Bool) (p:Nat):F7 σ p<8:=by
 unfold F7;cases σ (3 * p:Nat) <;> cases σ (3 * p+1:Nat) <;> cases σ (3 * p+2:Nat) <;> decide
theorem TI (σ:Int→Bool):∀ (c p:Nat),(ED σ p c).length=c
 | 0,_=>rfl
 | c+1,p=>by simp [ED,TI σ c (p+1)]
theorem Nz (σ:Int→Bool):∀ (c p j:Nat),j<c→(ED σ p c)[j]?=some (F7 σ (p+j))
 | 0,_,_,h=>by omega
 | c+1,p,0,_=>rfl
 | c+1,p,j+1,h=>by simp only [ED,List.getElem?_cons_succ];rw [Nz σ c (p+1) j (by omega)];congr 2;omega
theorem OJ (σ:Int→Bool) {c j:Nat} (h:j<c):(ED σ 0 c).getD j 0=F7 σ j:=by
 rw [Ad,Nz σ c 0 j h,Ag];rfl
theorem Lr (σ:Int→Bool):∀ (c p:Nat),ED σ p c∈DP c
 | 0,_=>by simp [ED,DP]
 | c+1,p=>by
  simp only [ED,DP,Ap,B9,AM];exact ⟨_,iH σ p,_,Lr σ c (p+1),rfl⟩
theorem VB {c:Nat} {l:List Nat} (h:l∈DP c):∃ σ,ED σ 0 c=l:=by
 have:=Q3 c 0;rw [←this] at h;obtain ⟨y,_,rfl⟩:=AM.1 h;exact ⟨_,rfl⟩
theorem GT {c:Nat} {l:List Nat}:l∈DP c↔l.length=c∧∀ x∈l,x<8:=by
 induction c generalizing l with
 | zero=>simp only [DP,AF];constructor
         ·rintro rfl;simp
         ·rintro ⟨h,_⟩;exact List.eq_nil_of_length_eq_zero h
 | succ c ih=>
  simp only [DP,Ap,B9,AM];constructor
  ·rintro ⟨d,hd,m,hm,rfl⟩;obtain ⟨h1,h2⟩:=ih.1 hm;refine ⟨by simp [h1],fun x hx=>?_⟩;rcases AG.1 hx with rfl | hx
   ·exact hd
   ·exact h2 x hx
  ·rintro ⟨h1,h2⟩;cases l with
   | nil=>simp at h1
   | cons d m=>exact ⟨d,h2 d (by simp),m,ih.2 ⟨by simpa using h1,fun x hx=>h2 x (AP _ hx)⟩,rfl⟩
theorem fX (σ:Int→Bool) {t:BN} (ht:JQ t):Km σ t=Ia (ED σ 0 4) t:=by
 unfold Km Ia;obtain ⟨h0,_,h4⟩:=ht;cases hv:t.isVar with
 | true=>simp only [if_true];rw [OJ σ (by have:=h4 hv;omega)]
 | false=>rfl
theorem Zy (σ:Int→Bool) {ts:List BN} (ht:∀ t∈ts,JQ t):ts.map (Km σ)=ts.map (Ia (ED σ 0 4)):=Bn fun t h=>fX σ (ht t h)
theorem ZN {ts:List BN} {R:List Nat→Prop} (htm:∀ t∈ts,JQ t) (σ:Int→Bool):(Pj ts R σ∧∀ (p:Nat) (t:BN),ts[p]?=some t→F7 σ p=Km σ (QB ts t))↔∃ ρ,ρ∈DP 4∧R ρ∧ts.map (Ia ρ)=ED σ 0 ts.length:=by
 have hnum:∀ (τ:Int→Bool) (v:Nat),v<4→(ED τ 0 4).getD v 0=F7 τ v:=fun τ v hv=>OJ τ hv;constructor
 ·rintro ⟨⟨τ,h1,h2⟩,h3⟩;refine ⟨ED τ 0 4,Lr τ 4 0,h2,?_⟩;apply Bj;intro p;by_cases hp:p<ts.length
  ·obtain ⟨t,ht⟩:∃ t,ts[p]?=some t:=⟨_,AB hp⟩;have hm:=AE ht;have hto:=htm t hm;rw [AW,ht,Nz σ _ 0 p hp,Ag,A5,h3 p t ht];congr 1
   unfold Ia QB Km;cases hv:t.isVar with
   | false=>simp [hv]
   | true=>
    simp only [if_true];have hv4:=hto.2.2 hv;obtain ⟨v,hvn⟩:=Bm hto.1;rw [hvn,BE];obtain ⟨q,hq⟩:=SO hm hv hvn;rw [hq,BE,hnum τ v (by omega)];unfold F7;have key:∀ i,i<3→τ (3 * v+i:Nat)=σ (3 * q+i:Nat):=fun i hi=>by
     have e1:(3 * v+i) / 3=v:=(by omega);have e2:(3 * v+i) % 3=i:=(by omega);have:=h1 (3 * v+i) (by omega) (by rw [e1,hq];omega);rw [e1,e2,hq,BE] at this;exact this
    have k0:=key 0 (by omega);simp only [CY] at k0;rw [k0,key 1 (by omega),key 2 (by omega)]
  ·rw [Af (by simp;omega),Af (by rw [TI];omega)]
 ·rintro ⟨ρ,h1,h2,h3⟩;obtain ⟨τ,rfl⟩:=VB h1;have col:∀ (p:Nat) (t:BN),ts[p]?=some t→F7 σ p=Ia (ED τ 0 4) t:=fun p t ht=>by
   have hp:=(AL.1 ht).1;have:=congrArg (·[p]?) h3;simp only [AW,ht,A5] at this;rw [Nz σ _ 0 p hp,Ag] at this;exact (Ar this).symm
  have colv:∀ (v q:Nat),v<4→Db ts v=q→F7 σ q=F7 τ v:=fun v q hv hq=>by
   obtain ⟨t,ht,htv,htn⟩:=SP hq;rw [col q t ht];unfold Ia;rw [if_pos htv,htn,BE,hnum τ v hv]
  refine ⟨⟨τ,fun u hu h0=>?_,h2⟩,fun p t ht=>?_⟩
  ·obtain ⟨q,hq⟩:=Bm h0;have:=colv (u / 3) q (by omega) hq;unfold F7 at this;obtain ⟨b0,b1,b2⟩:=bS.1 this;rw [hq,BE];have e:u=3 * (u / 3)+u % 3:=(by omega);have h3:u % 3<3:=(by omega);generalize u / 3=v at *;generalize u % 3=i at *;subst e;match i with
   | 0=>exact b0.symm
   | 1=>exact b1.symm
   | 2=>exact b2.symm
   | i+3=>omega
  ·rw [col p t ht];have hm:=AE ht;have hto:=htm t hm;unfold Ia QB Km;cases hv:t.isVar with
   | false=>simp [hv]
   | true=>
    simp only [if_true];have hv4:=hto.2.2 hv;obtain ⟨v,hvn⟩:=Bm hto.1;rw [hvn,BE];obtain ⟨q,hq⟩:=SO hm hv hvn;rw [hq,BE,hnum τ v (by omega),colv v q (by omega) hq]
section
variable {w:World} {B:SB} {S:ST} {bb g c:Nat} {f ρ:Int} {ts:List BN} {R:List Nat→Prop}
theorem XJ (hE:DB w B S) (hb:KY w bb B) (hg:g∉B.own) (hrow:ID w g ts) (htm:∀ t∈ts,JQ t) (h1:0<ts.length) (h4:ts.length≤4) (hf:GW S f ts.length R) (hl:S.next+16769100<GN) :
  Calls prog 262 #[.pointer (some ⟨bb,0,none⟩),.int .i64 f,.agg #[.int .i64 ρ,.slice (some ⟨g,0,none⟩) ts.length c]] w (JR B w S (fun σ=>R (ts.map (Ia (ED σ 0 4)))) 16769037):=
 (TB hE hb ρ ts hg hrow htm h1 h4 hf hl).mono fun _ _ h=>h.iff fun σ=>by rw [Zy σ htm]
theorem Xq (hE:DB w B S) (hb:KY w bb B) (hg:g∉B.own) (hrow:ID w g ts) (htm:∀ t∈ts,JQ t) (h4:ts.length≤3) (hf:GW S f 4 R) (hl:S.next+33800000<GN) :
  Calls prog 74 #[.pointer (some ⟨bb,0,none⟩),.int .i64 f,.agg #[.int .i64 ρ,.slice (some ⟨g,0,none⟩) ts.length c]] w (JR B w S (fun σ=>∃ ρ,ρ∈DP 4∧R ρ∧ts.map (Ia ρ)=ED σ 0 ts.length) 33700000):=
 (Ue hE hb ρ ts hg hrow htm h4 hf hl).mono fun _ _ h=>h.iff fun σ=>ZN htm σ
end
def r3 (d:Nat):Nat:=4 * (d % 2)+2 * (d / 2 % 2)+d / 4 % 2
def asnF:List Nat→Nat→Nat
 | [],_=>0
 | d :: l,p=>asnF l (p+1)+r3 d * 2 ^ (3 * p)
def asn (l:List Nat):Nat:=asnF l 0
theorem bA (d:Nat):r3 d<8:=by unfold r3;omega
theorem iB:∀ d,d<8→4 * ((r3 d).testBit 0).toNat+2 * ((r3 d).testBit 1).toNat+((r3 d).testBit 2).toNat=d:=by decide
theorem U7:∀ (l:List Nat) (p:Nat),∃ z,asnF l p=z * 2 ^ (3 * p)
 | [],_=>⟨0,by simp [asnF]⟩
 | d :: l,p=>by
  obtain ⟨z,hz⟩:=U7 l (p+1);refine ⟨z * 8+r3 d,?_⟩;simp only [asnF];rw [hz,show 3 * (p+1)=3 * p+3 by omega,Nat.pow_add,Nat.add_mul,Nat.mul_assoc,DL (2 ^ (3 * p)) (2 ^ 3),show (2:Nat) ^ 3=8 from rfl]
theorem jW (d:Nat) (l:List Nat) (p v:Nat) (h:3 * p≤v):(asnF (d :: l) p).testBit v=if v<3 * p+3 then (r3 d).testBit (v - 3 * p) else (asnF l (p+1)).testBit v:=by
 obtain ⟨z,hz⟩:=U7 l (p+1);have:=PO z (r3 d) (3 * p) 3 v (bA d);rw [show 3 * p+3=3 * (p+1) by omega] at this;simp only [asnF];rw [hz,this,if_neg (by omega),show 3 * (p+1)=3 * p+3 by omega]
theorem I3:∀ {c:Nat} {l:List Nat} (p:Nat),l∈DP c→ED (IC (asnF l p:Nat)) p c=l
 | 0,l,p,h=>by simp [DP] at h;subst h;rfl
 | c+1,l,p,h=>by
  simp only [DP,Ap,B9,AM] at h;obtain ⟨d,hd,m,hm,rfl⟩:=h;have hb:∀ v:Nat,3 * p≤v→IC ((asnF (d :: m) p:Nat):Int) (v:Int)=if v<3 * p+3 then (r3 d).testBit (v - 3 * p) else IC ((asnF m (p+1):Nat):Int) (v:Int):=fun v hv=>by
   show KJ _ _=if _ then _ else KJ _ _;rw [PQ,PQ,jW d m p v hv]
  simp only [ED];congr 1
  ·unfold F7;rw [hb _ (by omega),hb _ (by omega),hb _ (by omega),if_pos (by omega),if_pos (by omega),if_pos (by omega),Nat.sub_self,show 3 * p+1 - 3 * p=1 by omega,show 3 * p+2 - 3 * p=2 by omega];exact iB d hd
  ·refine (I4 c (p+1) fun v h1 h2=>?_).trans (I3 (p+1) hm);rw [hb v (by omega),if_neg (by omega)]
theorem jV {c:Nat} {l m:List Nat} (hl:l∈DP c) (hm:m∈DP c) (h:asn l=asn m):l=m:=by
 have h1:=I3 0 hl;have h2:=I3 0 hm;unfold asn at h;rw [h,h2] at h1;exact h1.symm
theorem MR:∀ (c p:Nat),KL (3 * c) (3 * p)=(DP c).map (asnF · p)
 | 0,p=>by simp [KL,DP,asnF]
 | c+1,p=>by
  have ih:=MR c (p+1);rw [show 3 * (c+1)=3 * c+1+1+1 by omega];have e3:3 * p+1+1+1=3 * (p+1):=by omega
  have hp1:2 ^ (3 * p+1)=2 * 2 ^ (3 * p):=by rw [CX,DL]
  have hp2:2 ^ (3 * p+1+1)=4 * 2 ^ (3 * p):=by rw [CX,CX];omega
  have e5:∀ q:Nat,4 * q+q=5 * q:=fun q=>by omega
  have e3':∀ q:Nat,2 * q+q=3 * q:=fun q=>by omega
  have e7:∀ q:Nat,6 * q+q=7 * q:=fun q=>by omega
  simp only [KL,e3,ih,hp1,hp2,Am,CZ,Ab];simp [DP,List.range_succ,asnF,r3,Function.comp_def,Nat.add_assoc,←Nat.add_mul,e5,e3',e7]
theorem YM {S:ST} {f:Int} {c:Nat} {R:List Nat→Prop} (h:GW S f c R):∀ y,y∈S.trues f (3 * c)↔∃ l,l∈DP c∧R l∧y=asn l:=by
 intro y;unfold ST.trues;rw [Ai,show (0:Nat)=3 * 0 from rfl,MR c 0,AM];constructor
 ·rintro ⟨⟨l,hl,rfl⟩,hd⟩;refine ⟨l,hl,?_,rfl⟩;have:=(h.2 _).1 hd;rwa [I3 0 hl] at this
 ·rintro ⟨l,hl,hr,rfl⟩;refine ⟨⟨l,hl,rfl⟩,(h.2 _).2 ?_⟩;unfold asn;rwa [I3 0 hl]
end
section
open Go.RowKit Go.Shelf
attribute [local go_sem] Oper.semAt_some
structure Lo (b:Nat) (τ:TypeId) (T:List Nat) (w w':World):Prop where
 os:w'.os=w.os
 tape:w'.tape=w.tape
 output:w'.output=w.output
 size:w.heap.size≤w'.heap.size
 block:∀ i,i<w.heap.size→i∉T→¬ (b≤i∧∃ cs f,w.heap[i]?=some (.cells cs τ f))→w'.heap[i]?=w.heap[i]?
theorem Lo.refl (b:Nat) (τ:TypeId) (T:List Nat) (w:World):Lo b τ T w w:=⟨rfl,rfl,rfl,AQ _,fun _ _ _ _=>rfl⟩
theorem Lo.trans {b:Nat} {τ:TypeId} {T:List Nat} {x y z:World} (h:Lo b τ T x y) (k:Lo b τ T y z):Lo b τ T x z:=
 ⟨k.os.trans h.os,k.tape.trans h.tape,k.output.trans h.output,At h.size k.size,fun i hi hT hc=>by
  have e:=h.block i hi hT hc;refine (k.block i (A4 hi h.size) hT ?_).trans e
  rw [e];exact hc⟩
theorem Lo.mono {b:Nat} {τ:TypeId} {T T':List Nat} {w w':World} (h:Lo b τ T w w') (hT:∀ i∈T,i∈T'):Lo b τ T' w w':=
 ⟨h.os,h.tape,h.output,h.size,fun i hi hn hc=>h.block i hi (fun x=>hn (hT i x)) hc⟩
theorem Lo.drop {b l:Nat} {τ:TypeId} {T:List Nat} {w w':World} (h:Lo b τ (l :: T) w w') (hl:w.heap.size≤l):Lo b τ T w w':=
 ⟨h.os,h.tape,h.output,h.size,fun i hi hn hc=>h.block i hi (fun x=>(AG.1 x).elim (fun e=>by omega) hn) hc⟩
theorem AA.grT {b:Nat} {τ:TypeId} {T T':List Nat} {w w':World} (h:AA T w w') (hT:∀ i∈T,i∈T'):Lo b τ T' w w':=
 ⟨h.os,h.tape,h.output,h.size,fun i hi hn _=>h.block i hi (fun x=>hn (hT i x))⟩
theorem AA.grTrow {b:Nat} {τ:TypeId} {T T':List Nat} {w w':World} (h:AA T w w') (hT:∀ i∈T,i∈T'∨(b≤i∧∃ cs f,w.heap[i]?=some (.cells cs τ f))):Lo b τ T' w w':=
 ⟨h.os,h.tape,h.output,h.size,fun i hi hn hc=>h.block i hi (fun x=>(hT i x).elim hn hc)⟩
theorem Aj.grT {w w':World} {B:SB} {S:ST} {b:Nat} {τ:TypeId} {T:List Nat} (h:Aj w B S) (k:Lo b τ T w w') (hT:∀ i∈B.own,i∉T) (hB:∀ i∈B.own,i<b):Aj w' B S:=
 h.of_heap (fun i hi=>k.block i (h.lt i hi) (hT i hi) (fun q=>by have:=hB i hi;have:=q.1;omega))
def fJ {α:Type} (τ:TypeId) (b:Nat) (gf:FuncId) (lb:Array Value) (encs:α→Array Value) (cond:List α→α→World→Prop) (Good:List α→Prop) (T:List Nat) (w:World):Prop:=
 ∀ (n l:Nat) (J:List α→World→Prop) (W:World),w.heap.size≤l→l<W.heap.size→Go.RowKit.Below w.heap.size w W →
  (∀ pre W1 W2,J pre W1→GU W.heap.size W1 W2→J pre W2) →
  (∀ pre x W1,J pre W1→cond pre x W1→YieldAt Fence.wide (n - 1) prog l (encs x) W1 fun e W'=>e=.returned (.bool true)∧J (pre++[x]) W'∧Lo b τ (l :: T) W1 W') →
  J [] W →
  CallsIn Fence.wide n prog gf (#[.func (.yield l) #[] #[]]++lb) W fun e W'=>(∃ v,e=.returned v)∧∃ xs,Good xs∧J xs W'∧Lo b τ (l :: T) W W'
def Zb (I:World→Prop) (b:Nat) (τ:TypeId) (T:List Nat) (W:World):Exit→Act→World→Prop
 | .normal,_,W'=>I W'∧Lo b τ T W W'
 | _,_,_=>False
theorem Oe {α:Type} {n:Nat} {g:Operand} {ps:Array Tmp} {assign body:Code} {Q:Exit→Act→World→Prop} {a:Act} {w:World} {gf:Nat} {lb:Array Value} (hg:a.eval g=.func (.func gf) #[] lb)
  (eg:∀ args w,(callFunc gf args).run prog w=.ok (.enter gf args) w) {encs:α→Array Value} {cond:List α→α→World→Prop} {Good:List α→Prop} {T:List Nat} {τ:TypeId} {b:Nat} (hT:∀ t∈T,t<w.heap.size) (hseq:fJ τ b gf lb encs cond Good T w) (hcond:∀ pre x W1 W2,cond pre x W1→GU w.heap.size W1 W2→cond pre x W2) (hps:∀ x,(encs x).size=ps.size)
  (I:List α→World→Prop) (hI:∀ pre W1 W2,I pre W1→GU w.heap.size W1 W2→I pre W2) (h0:I [] w) (Ax:α→Act→World→Prop) (hAx:∀ x a' W1 W2,Ax x a' W1→AA [w.heap.size+1] W1 W2→Ax x a' W2)
  (hassign:∀ (l:Nat) (pre:List α) (x:α) (W:World) (K:Act→World→Prop),w.heap.size+1<W.heap.size→I pre W→cond pre x W→(∀ a' W',Ax x a' W'→AA [] W W'→K a' W') →
   assign.wpIn (Fence.wide.inRound l) (n - 1 - 1) prog (Exit.then K (fun _ _ _=>False)) { tmps:=(ps.zip (encs x)).foldl (fun t (p,v)=>t.setIfInBounds p v) a.tmps,defers:=[] } W)
  (hbody:∀ (l:Nat) (pre:List α) (x:α) (a':Act) (W:World),w.heap.size+1<W.heap.size→I pre W→cond pre x W→Ax x a' W→body.wpIn (Fence.wide.inRound l) (n - 1 - 1) prog (Zb (I (pre++[x])) b τ T W) a' W)
  (hdone:∀ (xs:List α) (W:World),Good xs→I xs W→Lo b τ T w W→w.heap.size<W.heap.size→W.heap[w.heap.size]?=some (.deferred (some []))→Q .normal { a with defers:={ target:=.collected w.heap.size,args:=#[] } :: a.defers } W) :
  (Code.rangeFunc g ps assign body).wpIn Fence.wide n prog Q a w:=by
 refine wpIn_rangeFunc ?_;intro fn hfn;show ∃ l mark w₁ d w₁' f args w₂,(Instr.enterLoop fn a.tmps ps assign body none).run prog w=_∧_;let rec1:LoopState→Loop:=fun st=>{ state:=st,pending:=none,fn,tmps:=a.tmps,params:=ps,assign,body,defers:=w.heap.size };obtain ⟨W1,hW1⟩:∃ W1,(w.alloc (.deferred (some []))).alloc (.loop (rec1 .ready))=W1:=⟨_,rfl⟩;have k1:AA [] w W1:=by rw [←hW1];exact (AA.alloc _ _ _).trans (AA.alloc _ _ _)
 have hD1:W1.heap[w.heap.size]?=some (.deferred (some [])):=by
  rw [←hW1];exact (Go.RowKit.Below.heap_alloc _ _ _ (by simp)).trans (World.alloc_heap_new w _)
 have hL1:W1.heap[w.heap.size+1]?=some (.loop (rec1 .ready)):=by
  rw [←hW1];have:=World.alloc_heap_new (w.alloc (.deferred (some []))) (.loop (rec1 .ready));rwa [World.size_alloc] at this
 have hs1:W1.heap.size=w.heap.size+1+1:=by rw [←hW1];simp
 refine ⟨w.heap.size+1,[{ target:=.collected w.heap.size,args:=#[] }],W1,{ target:=.fn (.func gf) lb,args:=#[.func (.yield (w.heap.size+1)) #[] #[]] },W1,gf,
  #[.func (.yield (w.heap.size+1)) #[] #[]]++lb,W1,?_,?_,fun _ _=>trivial,?_,fun h=>(nomatch h),?_⟩
 ·rw [←hW1];exact run_enterLoop_outer _ _ _ _ _
 ·simp only [resolve,hg];simp [go_sem]
 ·simp [invoke,go_sem,eg]
 ·refine (hseq (n - 1) (w.heap.size+1) (fun pre W=>I pre W∧W.heap[w.heap.size+1]?=some (.loop (rec1 .ready))∧W.heap[w.heap.size]?=some (.deferred (some []))) W1 (by omega) (by omega)
   (k1.below (AQ _) (by simp)) ?_ ?_ ⟨hI _ _ _ h0 (k1.still (by simp)),hL1,hD1⟩).mono ?_
  ·rintro pre A B ⟨i,l,d⟩ hb;exact ⟨hI _ _ _ i (hb.mono (by omega)),(hb.block _ (AO.1 l).1 (.inl (by omega))).trans l,(hb.block _ (AO.1 d).1 (.inl (by omega))).trans d⟩
  ·rintro pre x W ⟨hi,hl,hd⟩ hc;have hlt:w.heap.size+1<W.heap.size:=(AO.1 hl).1;refine ⟨fn,_,assign,body,run_yield (P:=prog) (args:=encs x) hl (hps x),roundIn_of_wpIn trivial (hassign _ pre x W _ hlt hi hc ?_)⟩;intro a' W' hax hk;have hl':W'.heap[w.heap.size+1]?=some (.loop (rec1 .ready)):=(hk.block _ hlt (by simp)).trans hl;have hd':W'.heap[w.heap.size]?=some (.deferred (some [])):=(hk.block _ (by omega) (by simp)).trans hd;have hlt':w.heap.size+1<W'.heap.size:=(AO.1 hl').1;have hi':I pre W':=hI _ _ _ hi (hk.still (by simp));have k2:=AA.putObj W' (w.heap.size+1) (.loop (rec1 .busy));have s2:GU w.heap.size W' (W'.putObj (w.heap.size+1) (.loop (rec1 .busy))):=k2.still (by simp only [AF];rintro i rfl;exact ⟨by omega,by rw [hl'];intro _ _ _ e;cases e⟩);have hl2:(W'.putObj (w.heap.size+1) (.loop (rec1 .busy))).heap[w.heap.size+1]?=some (.loop (rec1 .busy)):=World.putObj_heap_same hlt';have hd2:(W'.putObj (w.heap.size+1) (.loop (rec1 .busy))).heap[w.heap.size]?=some (.deferred (some [])):=(World.putObj_heap_other (by omega)).trans hd';refine ⟨_,run_beginRound hl' rfl,?_⟩;refine wpIn_mono (hbody _ pre x a' (W'.putObj (w.heap.size+1) (.loop (rec1 .busy))) (AO.1 hl2).1 (hI _ _ _ hi' s2) (hcond _ _ _ _ (hcond _ _ _ _ hc (hk.still (by simp))) s2) (hAx _ _ _ _ hax k2)) ?_;rintro e a3 W3 hp;cases e with
   | normal=>
    obtain ⟨hi3,k3⟩:=hp;have hl3:W3.heap[w.heap.size+1]?=some (.loop (rec1 .busy)):=(k3.block _ (AO.1 hl2).1 (fun x=>by have:=hT _ x;omega) (by rw [hl2];rintro ⟨_,_,_,e⟩;cases e)).trans hl2;have hd3:W3.heap[w.heap.size]?=some (.deferred (some [])):=(k3.block _ (AO.1 hd2).1 (fun x=>by have:=hT _ x;omega) (by rw [hd2];rintro ⟨_,_,_,e⟩;cases e)).trans hd2;have hlt3:=(AO.1 hl3).1;have k4:=AA.putObj W3 (w.heap.size+1) (.loop (rec1 .ready));refine ⟨_,_,run_endRound none hl3,rfl,⟨hI _ _ _ hi3 (k4.still (by simp only [AF];rintro i rfl;exact ⟨by omega,by rw [hl3];intro _ _ _ e;cases e⟩)),World.putObj_heap_same hlt3,(World.putObj_heap_other (by omega)).trans hd3⟩,?_⟩;exact (((hk.grT (by simp)).trans (k2.grT (by simp))).trans (k3.mono (fun i hi=>AP _ hi))).trans (k4.grT (by simp))
   | ret=>exact hp.elim
   | exit id=>exact hp.elim
   | goto t=>exact hp.elim
   | panic c=>exact hp.elim
   | outgrown=>exact hp.elim
  ·rintro e W2 ⟨⟨v,rfl⟩,xs,hG,⟨hi,hl,hd⟩,k2⟩;have k5:=AA.putObj W2 (w.heap.size+1) (.loop (rec1 .exhausted));have hlt2:=(AO.1 hl).1;refine ⟨none,_,run_endLoop hl (by simp [rec1]),?_⟩;refine hdone xs _ hG (hI _ _ _ hi (k5.still (by simp only [AF];rintro i rfl;exact ⟨by omega,by rw [hl];intro _ _ _ e;cases e⟩))) ?_ (by simp;omega) ((World.putObj_heap_other (by omega)).trans hd);exact ((k1.grT (by simp)).trans (k2.trans (k5.grT (by simp)))).drop (by omega)
def lN (τ:TypeId) (b:Nat) (B:SB) (S:ST) (l:Nat) (J:List Nat→World→Prop) (T L:List Nat) (z k:Nat):Prop:=
 ∀ (i:Nat) (f:Int) (a c:Nat) (pre:List Nat) (W:World),i+k≤S.n→S.n≤12→k+3≤c→a<2 ^ i→S.ok f→(i:Int)≤S.lev f→(pre++S.tl k i f a) <+: L→Aj W B S→z≤W.heap.size→J pre W →
  Calls prog 154 #[.pointer (some ⟨B.b,0,none⟩),.int .i64 f,.int .i64 (a:Int),.slice (some ⟨B.bo,i,none⟩) k c,.func (.yield l) #[] #[]] W fun e W'=>e=.returned (.bool true)∧J (pre++S.tl k i f a) W'∧Lo b τ (l :: T) W W'
theorem Ve {τ:TypeId} {b:Nat} {B:SB} {S:ST} (hw:WF S) (hid:kV S) (ho:∀ i:Nat,i<S.n→S.order[i]?=some (i:Int)) {l:Nat} {J:List Nat→World→Prop} {T L:List Nat} {z:Nat} (hJ:Hid (∀ pre W1 W2,J pre W1→GU z W1 W2→J pre W2)) (hT:∀ i∈B.own,i∉l :: T) (hB:∀ i∈B.own,i<b) {k:Nat} (ih:Hid (lN τ b B S l J T L z k))
  (i:Nat) (f:Int) (a c:Nat) (pre:List Nat) (W:World) (hn:i+(k+1)≤S.n) (n12:S.n≤12) (hc:k+1+3≤c) (ha:a<2 ^ i) (hf:S.ok f) (hf0:(f == 0)=false) (hl:(i:Int)≤S.lev f) (hpre:Hid ((pre++(S.tl k (i+1) (S.cof f i).1 a++S.tl k (i+1) (S.cof f i).2 (a+2 ^ i))) <+: L)) (hS:Aj W B S) (hz:z≤W.heap.size) (h0:J pre W) :
  Calls prog 154 #[.pointer (some ⟨B.b,0,none⟩),.int .i64 f,.int .i64 (a:Int),.slice (some ⟨B.bo,i,none⟩) (k+1) c,.func (.yield l) #[] #[]] W fun e W'=>e=.returned (.bool true)∧J (pre++(S.tl k (i+1) (S.cof f i).1 a++S.tl k (i+1) (S.cof f i).2 (a+2 ^ i))) W'∧Lo b τ (l :: T) W W':=by
 have hi12:i<12:=by omega
 have hi:(i:Int)<S.n:=by omega
 have hpi:=hid i (by omega) hi;obtain ⟨ok0,ok1,l0,l1,_,_,_⟩:=MK hw hf (u:=i) (by omega) hi (by rw [hpi];exact hl);rw [hpi] at l0 l1;have hc0:=hS.order.cell (ho i (by omega));have hsp:=AD (Jw hS hw f i hf);have hor:=Ru ha hi12;have hpw:=bC hi12;have Ha:=AD (lD ha);clear ha;generalize hA:2 ^ i=A at hor hpw Ha hpre ⊢;generalize a+A=a2 at hor Ha hpre ⊢;generalize hf0':(S.cof f i).1=f0 at *;generalize hf1':(S.cof f i).2=f1 at *;go_in
 go_wp2_with fail
 refine hsp.out.mono ?_;rintro e W1 ⟨rfl,k1⟩;have hS1:=hS.keeps k1;have hS1d:=hS1.keeps (AA.drew [] W1);have hz1:z≤W1.heap.size:=At hz k1.size;have h1:J pre W1.drew:=hJ.out _ _ _ h0 ((k1.trans (AA.drew [] W1)).still (by simp));have hpre1:Hid ((pre++S.tl k (i+1) f0 a) <+: L):=((List.prefix_append _ _).trans (by rw [Ab];exact hpre.out));have hc1:=AD (ih.out (i+1) f0 a (c - 1) pre W1.drew (by omega) n12 (by omega) Ha.out.1 ok0 (by push_cast;omega) hpre1.out hS1d hz1 h1);have hc01:=hS1.order.cell (ho i (by omega));have Hnx:=AD (fun (W2:World) (k2:Lo b τ (l :: T) W1.drew W2) (h2:J (pre++S.tl k (i+1) f0 a) W2)=>ih.out (i+1) f1 a2 (c - 1) (pre++S.tl k (i+1) f0 a) W2 (by omega) n12 (by omega) Ha.out.2 ok1 (by push_cast;omega) (by rw [Ab];exact hpre.out) (hS1d.grT k2 hT hB) (At hz1 k2.size) h2);have hbo:B.bo∉l :: T:=hT _ (by simp [SB.own]);have hcd:=hS1d.order.cell (ho i (by omega));have Hcell:=AD (fun (W2:World) (k2:Lo b τ (l :: T) W1.drew W2)=>(hS1d.order.of_heap (k2.block _ hS1d.order.lt hbo (fun q=>by have:=hB B.bo (by simp [SB.own]);omega))).cell (ho i (by omega)));clear hsp hpre ih;have hsl:=TX B.bo i k c (by omega);go_wp2_with fail
 go_region_held3 (fun w'=>w'.cell? ⟨B.bo,i,none⟩=some (.int .i64 (i:Int))) (first | exact hcd | exact hc2 | exact hc3)
  (first
  | (go_at_call_of 154 (Value.int IntKind.i64 f0)
     refine hc1.out.mono ?_;rintro e W2 ⟨rfl,h2,k2⟩
     have hc2:=Hcell.out _ k2)
  | (go_at_call_of 154 (Value.int IntKind.i64 f1)
     refine (Hnx.out _ k2 h2).mono ?_;rintro e W3 ⟨rfl,h3,k3⟩
     have hc3:=Hcell.out _ (k2.trans k3)))
 all_goals
  go_wp2_with fail
  go_ret
  exact ⟨rfl,by rw [←Ab];exact h3,(((k1.trans (AA.drew [] W1)).grT (by simp)).trans k2).trans k3⟩
theorem Vf {τ:TypeId} {b:Nat} {B:SB} {S:ST} (hw:WF S) (hid:kV S) (ho:∀ i:Nat,i<S.n→S.order[i]?=some (i:Int)) {l:Nat} {J:List Nat→World→Prop} {T L:List Nat} {z:Nat} (hJ:∀ pre W1 W2,J pre W1→GU z W1 W2→J pre W2) (hT:∀ i∈B.own,i∉l :: T) (hB:∀ i∈B.own,i<b)
  (hY:∀ m pre x W1,J pre W1→(pre++[x]) <+: L→YieldAt Fence.wide m prog l (eA x) W1 fun e W'=>e=.returned (.bool true)∧J (pre++[x]) W'∧Lo b τ (l :: T) W1 W'):∀ k,lN τ b B S l J T L z k:=by
 intro k;induction k with
 | zero=>
  intro i f a c pre W hn n12 hc ha hf hl hpre hS hz h0;by_cases hf0:f=0
  ·subst hf0;refine (KZ W _ _ _ _).mono ?_;rintro e W' ⟨rfl,rfl⟩;exact ⟨rfl,by simpa [ST.tl] using h0,Lo.refl _ _ _ _⟩
  ·simp only [ST.tl,hf0,if_false] at hpre ⊢;refine callsIn_wide.1 (TQ 0 W _ f (by simpa using hf0) a l c _ fun m=>?_);exact (hY m pre a W h0 hpre).mono fun e W' h=>⟨true,h.1,h⟩
 | succ k ih=>
  intro i f a c pre W hn n12 hc ha hf hl hpre hS hz h0;by_cases hf0:f=0
  ·subst hf0;refine (KZ W _ _ _ _).mono ?_;rintro e W' ⟨rfl,rfl⟩;exact ⟨rfl,by simpa [ST.tl] using h0,Lo.refl _ _ _ _⟩
  ·simp only [ST.tl,hf0,if_false] at hpre ⊢;exact Ve hw hid ho (AD hJ) hT hB (AD ih) i f a c pre W hn n12 hc ha hf (by simpa using hf0) hl hpre hS hz h0
theorem TK (τ:TypeId) (b:Nat) {w:World} {B:SB} {S:ST} (hS0:Aj w B S) (hB:∀ i∈B.own,i<b) (hw:WF S) (hid:kV S) (ho:∀ i:Nat,i<S.n→S.order[i]?=some (i:Int)) (n12:S.n=12) (hco:12≤B.co) (ps pf pv:Nat) (f:Int) (k:Nat) (hps0:AK w ps #[.pointer (some ⟨B.b,0,none⟩)]) (hpf0:AK w pf #[.int .i64 f]) (hpv0:AK w pv #[.int .i64 (k:Int)])
  (hf:S.ok f) (hh:Hk k S f) (hk:k≤9) (T:List Nat) (hT:∀ t∈T,t<w.heap.size∧t∉B.own) :
  fJ τ b 153 #[.pointer (some ⟨ps,0,none⟩),.pointer (some ⟨pf,0,none⟩),.pointer (some ⟨pv,0,none⟩)] eA (fun pre x _=>(pre++[x]) <+: S.trues f k) (fun xs=>xs=S.trues f k) T w:=by
 intro n l J W hl hlW hb hJ hY h0;have hS:=hS0.of_heap (w':=W) (fun i hi=>hb.block i (hS0.lt i hi));have hps:=hps0.of_heap (w':=W) (hb.block ps hps0.lt);have hpf:=hpf0.of_heap (w':=W) (hb.block pf hpf0.lt);have hpv:=hpv0.of_heap (w':=W) (hb.block pv hpv0.lt);have q0:=hps.cell 0;have q1:=hpf.cell 0;have q2:=hpv.cell 0;have q3:=hS.head.cell 0;simp at q0 q1 q2 q3;have e:=TJ hw hid hf hh (by omega:k≤S.n);have hsl:=Oa B.bo k B.co S.order.length (by omega) (by omega);have hlT:∀ i∈B.own,i∉l :: T:=fun i hi x=>by
  rcases AG.1 x with e | x
  ·have:=hS0.lt i hi;omega
  ·exact (hT _ x).2 hi
 have hts:=AD (fun W1 (hk1:AA [] W W1)=>Vf (τ:=τ) (b:=b) (B:=B) (S:=S) (l:=l) (J:=J) (T:=T) (L:=S.trues f k) (z:=W.heap.size) hw hid ho hJ hlT hB (fun m pre x W1 h1 h2=>I1 (hY pre x W1 h1 h2)) k 0 f 0 B.co [] W1 (by omega) (by omega) (by omega) (by decide) hf (by have:=(Be hw hf).1;simpa using this) (by rw [e];simp) (hS.keeps hk1) hk1.size (hJ _ _ _ h0 (hk1.still (by simp))));have He:=AD e;clear hY hJ e;refine callsIn_wide.2 ?_;simp only [Bo,A8,BM];go_in
 go_wp2_with fail
 refine Fc 9 (by kernel_rfl) (by kernel_rfl) ?_;simp only [CR,DW,CT,BV];repeat (go_big_quiet_step (fail))
 refine wpQuiet_nil ?_;go_wp2_with fail
 refine (hts.out _ (AA.drew [] W)).mono ?_;rintro e W1 ⟨rfl,h1,k1⟩;go_wp2_with fail
 go_end0
 exact ⟨⟨_,rfl⟩,_,He.out,h1,((AA.drew [] W).grT (by simp)).trans k1⟩
end
end Go.Proofs.YtgjomknpjigkhaaGreatDoor
