import Derived.Test.YtgjomknpjigkhaaGreatDoorS08
namespace Go.Proofs.YtgjomknpjigkhaaGreatDoor
set_option maxRecDepth 100000
set_option maxHeartbeats 4000000
section
open Go.RowKit Go.Shelf
theorem rowE_of {w:World} {base:Nat} {v:Value} {xs:List Int} (h:w.ownsRow base 3 1 v xs.length (ints xs)) (h0:0<xs.length):∃ g cap,v=.slice (some ⟨g,0,none⟩) xs.length cap∧base≤g∧RowIs w g xs∧xs.length≤cap:=by
 obtain ⟨e0,⟨rfl,e2⟩ | ⟨g,cap,cur,rfl,e2,e3,e4,e5,e6,e7⟩⟩:=id h
 ·omega
 ·refine ⟨g,cap,rfl,e2,⟨cur,⟨_,e3⟩,fun i x hx=>?_⟩,(ownsRow_at h).2.2.1⟩
  have:=ownsRow_cell h hx
  rw [CellsAt.cell ⟨_,e3⟩] at this
  exact this
def rgs (i:Nat):List Int:=(List.range i).map fun k:Nat=>(k:Int)
theorem rgs_length (i:Nat):(rgs i).length=i:=by simp [rgs]
theorem rgs_succ (i:Nat):rgs (i+1)=rgs i++[(i:Int)]:=by simp [rgs,List.range_succ]
theorem rgs_get {i k:Nat} (h:k<i):(rgs i)[k]?=some (k:Int):=by simp [rgs,h]
def ApartE (x y:Value):Prop:=∀ i j,x.ownBlock=some i→y.ownBlock=some j→i≠j
theorem one_cellE {W:World} {y:Int}:∀ (j:Nat) (x:Value),(ints [y])[j]?=some x→(W.alloc (.cells #[.int .i64 y] 3)).cell? ((⟨W.heap.size,0,none⟩:Addr).add j)=some x:=by
 intro j x hx
 obtain ⟨y',hy,rfl⟩:=ints_get [y] j x hx
 rw [Addr.add_lit,Nat.zero_add,(CellsAt.new W #[.int .i64 y] 3).cell]
 cases j with
 | zero=>simp at hy;subst hy;rfl
 | succ j=>simp at hy
def ST.mk0 (n:Nat):ST:={ order:=rgs n,place:=rgs n,N:=[],U:=[],next:=2,K:=[] }
theorem mk0_wf (n:Nat):WF (ST.mk0 n):=by
 have ord:Ordered (rgs n) (rgs n):=by
  refine ⟨rfl,?_,?_⟩
  ·intro i v hv
   have hi:i<n:=by have:=(List.getElem?_eq_some_iff.1 hv).1;rwa [rgs_length] at this
   rw [rgs_get hi] at hv
   have:=Option.some.inj hv
   subst this
   rw [rgs_length]
   exact ⟨by omega,by omega,by rw [Int.toNat_natCast];exact rgs_get hi⟩
  ·intro i v hv
   have hi:i<n:=by have:=(List.getElem?_eq_some_iff.1 hv).1;rwa [rgs_length] at this
   rw [rgs_get hi] at hv
   have:=Option.some.inj hv
   subst this
   rw [rgs_length]
   exact ⟨by omega,by omega,by rw [Int.toNat_natCast];exact rgs_get hi⟩
 exact ⟨ord,by show (2:Int)≤2;omega,(fun f v l h ht=>nomatch ht),(fun t f=>⟨fun h=>(nomatch h),fun h=>(nomatch h)⟩)⟩
theorem mk0_calls {w:World} (n:Nat) (n1:1≤n) (n8:n≤12) :
  Calls Tryz.prog 71 #[.int .i64 n] w fun e w'=>∃ B,e=.returned (.pointer (some ⟨B.b,0,none⟩))∧StoreAt w' B (ST.mk0 n)∧(∀ i∈B.own,w.heap.size≤i)∧n≤B.co∧Keeps [] w w':=by
 obtain ⟨i0,hi0,hz0,hz1,hz2⟩:=info_parts info3
 have hmm:=@run_makeMap Tryz.prog
 go_enter Tryz.func71,Tryz.ntmps71
 go_wp2_with fail
 have z1:=size_alloc' w (.map #[] 0)
 have z2:=size_alloc' (w.alloc (.map #[] 0)) (.map #[] 0)
 have z3:=size_alloc' ((w.alloc (.map #[] 0)).alloc (.map #[] 0)) (.map #[] 0)
 rw [z1] at z2
 rw [z2] at z3
 obtain ⟨z,hz⟩:∃ z,w.heap.size=z:=⟨_,rfl⟩
 have a1:MapIs eI eT (w.alloc (.map #[] 0)) w.heap.size ([]:List (Int×Tri)):=MapIs.new w 0
 have a2:MapIs eT eI ((w.alloc (.map #[] 0)).alloc (.map #[] 0)) (w.alloc (.map #[] 0)).heap.size ([]:List (Tri×Int)):=MapIs.new _ 0
 have a3:MapIs eT eI (((w.alloc (.map #[] 0)).alloc (.map #[] 0)).alloc (.map #[] 0)) ((w.alloc (.map #[] 0)).alloc (.map #[] 0)).heap.size ([]:List (Tri×Int)):=MapIs.new _ 0
 have a4:=CellsAt.new (((w.alloc (.map #[] 0)).alloc (.map #[] 0)).alloc (.map #[] 0)) #[.slice none 0 0,.slice none 0 0,.map (some w.heap.size),.map (some (w.heap.size+1)),.int .i64 2,.map (some (w.heap.size+1+1))] 213
 have k1:=Keeps.alloc [] w (.map #[] 0)
 have k2:=Keeps.alloc [] (w.alloc (.map #[] 0)) (.map #[] 0)
 have k3:=Keeps.alloc [] ((w.alloc (.map #[] 0)).alloc (.map #[] 0)) (.map #[] 0)
 have k4:=Keeps.alloc [] (((w.alloc (.map #[] 0)).alloc (.map #[] 0)).alloc (.map #[] 0)) (.cells #[.slice none 0 0,.slice none 0 0,.map (some w.heap.size),.map (some (w.heap.size+1)),.int .i64 2,.map (some (w.heap.size+1+1))] 213)
 have z4:=size_alloc' (((w.alloc (.map #[] 0)).alloc (.map #[] 0)).alloc (.map #[] 0)) (.cells #[.slice none 0 0,.slice none 0 0,.map (some w.heap.size),.map (some (w.heap.size+1)),.int .i64 2,.map (some (w.heap.size+1+1))] 213)
 rw [z1] at a2
 rw [z2] at a3
 rw [z3] at a4 z4
 have b1:=((a1.kept k2 (by simp)).kept k3 (by simp)).kept k4 (by simp)
 have b2:=(a2.kept k3 (by simp)).kept k4 (by simp)
 have b3:=a3.kept k4 (by simp)
 have kk:=((k1.trans k2).trans k3).trans k4
 clear a1 a2 a3 k1 k2 k3 k4 z1 z2 z3
 generalize (((w.alloc (.map #[] 0)).alloc (.map #[] 0)).alloc (.map #[] 0)).alloc (.cells #[.slice none 0 0,.slice none 0 0,.map (some w.heap.size),.map (some (w.heap.size+1)),.int .i64 2,.map (some (w.heap.size+1+1))] 213)=W0 at a4 b1 b2 b3 kk z4 ⊢
 have Hz:=hide hz
 rw [hz] at a4 b1 b2 b3 z4 ⊢
 clear hz
 have HW0:=hide z4
 clear z4
 go_loopw [11] (fun t wr=>∃ (i:Nat) (vo vp:Value),t=.int .i64 i∧i≤n∧CellsAt wr (z+1+1+1) #[vo,vp,.map (some z),.map (some (z+1)),.int .i64 2,.map (some (z+1+1))]∧Hid (wr.ownsRow (z+1+1+1+1) 3 1 vo i (ints (rgs i)))∧Hid (wr.ownsRow (z+1+1+1+1) 3 1 vp i (ints (rgs i)))∧ApartE vo vp∧MapIs eI eT wr z ([]:List (Int×Tri))∧MapIs eT eI wr (z+1) ([]:List (Tri×Int))∧MapIs eT eI wr (z+1+1) ([]:List (Tri×Int))∧Keeps [] w wr)
  (fun t _=>((n:Int) - intOf t).toNat)
 case atStart=>exact ⟨0,_,_,rfl,by omega,a4,hide ⟨rfl,.inl ⟨rfl,rfl⟩⟩,hide ⟨rfl,.inl ⟨rfl,rfl⟩⟩,by intro i j h;simp [Value.ownBlock] at h,b1,b2,b3,kk⟩
 case round=>
  obtain ⟨i,vo,vp,rfl,hi,hc,ho,hp,hap,m1,m2,m3,hk⟩:=hrel
  clear a4 b1 b2 b3 kk HW0
  by_cases hlt:i<n
  ·have hltI:(i:Int)<n:=by omega
   have hi63:(i:Int)<9223372036854775807:=by omega
   have c0:=hc.cell 0
   simp at c0
   have hbl:=hc.lt
   have kB:=Keeps.alloc [] wr (.cells #[.int .i64 i] 3)
   have hcB:=hc.keeps kB (by simp)
   have hoB:=ownsRow_kept ho.out kB (by simp)
   have hpB:=hide (ownsRow_kept hp.out kB (by simp))
   have hszB:z+1+1+1+1≤(wr.alloc (.cells #[.int .i64 i] 3)).heap.size:=by rw [size_alloc'];omega
   have hone:=one_cellE (W:=wr) (y:=(i:Int))
   have hmB1:=hide (m1.kept kB (by simp))
   have hmB2:=hide (m2.kept kB (by simp))
   have hmB3:=hide (m3.kept kB (by simp))
   go_wp2_with (at_builtin;refine wpList_append_own_at _ rfl _ _ 40 rfl (z+1+1+1+1) 3 i0 (.int .i64 0) 1 8 Tryz.underlying40 hi0 hz0 hz1 hz2 rfl (by decide) _ i (ints (rgs i)) rfl hoB ⟨wr.heap.size,0,none⟩ 1 1 (ints [(i:Int)]) rfl (by simp [ints]) hone (ints_one _) (by unfold maxLen;omega) (by omega) hszB ?_)
   intro vo' W1 hown1 hgrow1 hnil1 hat1
   have hex1:∃ g cap,vo' = .slice (some ⟨g,0,none⟩) (i+1) cap:=by
    rcases hown1.2 with ⟨e,e2⟩ | ⟨g,cap,cur,e,_⟩
    ·omega
    ·exact ⟨g,cap,e⟩
   obtain ⟨go,capo,hvo'⟩:=hex1
   subst hvo'
   have k1:=grownBy_keeps' hgrow1 vo.ownBlock.toList (fun r e=>.inl (by rw [e];simp))
   have hlowo:∀ j∈vo.ownBlock.toList,z+1+1+1+1≤j:=fun j hj=>(ownE_base hoB j (by simpa using hj)).1
   have hc1:=hcB.keeps k1 (fun x=>by have:=hlowo _ x;omega)
   have m11:=hide (hmB1.out.kept k1 (fun x=>by have:=hlowo _ x;omega))
   have m12:=hide (hmB2.out.kept k1 (fun x=>by have:=hlowo _ x;omega))
   have m13:=hide (hmB3.out.kept k1 (fun x=>by have:=hlowo _ x;omega))
   have hp1:=hide (ownsRow_kept hpB.out k1 (fun j hj x=>hap j j (by simpa using x) hj rfl))
   have hap1:ApartE (.slice (some ⟨go,0,none⟩) (i+1) capo) vp:=by
    intro x y hx hy
    rcases hat1 with e | e
    ·rw [e] at hx;exact hap x y hx hy
    ·rw [e] at hx
     have h2:=(World.ownsRow.lt hp.out y hy).2
     have h3:=Option.some.inj hx
     omega
   have hk1:Keeps [] w W1:=(hk.trans kB).trans_new k1 (fun j hj=>.inr (by have:=hlowo j hj;have:=Hz.out;omega))
   have c10:=hc1.cell 0
   have f10:=hc1.frozen 0
   simp at c10
   have hs1:=hc1.setCell 0 (.slice (some ⟨go,0,none⟩) (i+1) capo)
   have ks1:=Keeps.setCell W1 ⟨z+1+1+1,0,none⟩ (.slice (some ⟨go,0,none⟩) (i+1) capo)
   have hT:∀ j,z+1+1+1+1≤j→j∉[z+1+1+1]:=fun j hj x=>by simp only [List.mem_singleton] at x;omega
   have ho2:=hide (ownsRow_kept hown1 ks1 (fun j hj=>hT j (ownE_base hown1 j hj).1))
   have hp2:=ownsRow_kept hp1.out ks1 (fun j hj=>hT j (ownE_base hp1.out j hj).1)
   have m21:=hide (m11.out.kept ks1 (by simp;omega))
   have m22:=hide (m12.out.kept ks1 (by simp))
   have m23:=hide (m13.out.kept ks1 (by simp))
   have hk2:Keeps [] w (W1.setCell ⟨z+1+1+1,0,none⟩ (.slice (some ⟨go,0,none⟩) (i+1) capo)):=hk1.trans_new ks1 (fun j hj=>.inr (by simp only [List.mem_singleton] at hj;have:=Hz.out;omega))
   have hs1':CellsAt (W1.setCell ⟨z+1+1+1,0,none⟩ (.slice (some ⟨go,0,none⟩) (i+1) capo)) (z+1+1+1) #[.slice (some ⟨go,0,none⟩) (i+1) capo,vp,.map (some z),.map (some (z+1)),.int .i64 2,.map (some (z+1+1))]:=by simpa using hs1
   clear hs1 hown1 hgrow1 hnil1 hat1 hone hszB hoB hcB c0 m11 m12 m13 hp1 hpB hmB1 hmB2 hmB3
   have hbl2:=hs1'.lt
   have hsz2:(W1.setCell ⟨z+1+1+1,0,none⟩ (.slice (some ⟨go,0,none⟩) (i+1) capo)).heap.size=W1.heap.size:=by simp
   have d1:=hs1'.cell 1
   simp at d1
   have kC:=Keeps.alloc [] (W1.setCell ⟨z+1+1+1,0,none⟩ (.slice (some ⟨go,0,none⟩) (i+1) capo)) (.cells #[.int .i64 i] 3)
   have hcC:=hs1'.keeps kC (by simp)
   have hoC:=hide (ownsRow_kept ho2.out kC (by simp))
   have hpC:=ownsRow_kept hp2 kC (by simp)
   have hszC:z+1+1+1+1≤((W1.setCell ⟨z+1+1+1,0,none⟩ (.slice (some ⟨go,0,none⟩) (i+1) capo)).alloc (.cells #[.int .i64 i] 3)).heap.size:=by rw [size_alloc',hsz2];rw [hsz2] at hbl2;omega
   have hone:=one_cellE (W:=(W1.setCell ⟨z+1+1+1,0,none⟩ (.slice (some ⟨go,0,none⟩) (i+1) capo))) (y:=(i:Int))
   have n1':=hide (m21.out.kept kC (by simp))
   have n2':=hide (m22.out.kept kC (by simp))
   have n3':=hide (m23.out.kept kC (by simp))
   rw [hsz2] at hone hbl2
   have Hbl2:=hide hbl2
   clear hp2 hsz2 hbl2
   go_wp2_with (at_builtin;refine wpList_append_own_at _ rfl _ _ 40 rfl (z+1+1+1+1) 3 i0 (.int .i64 0) 1 8 Tryz.underlying40 hi0 hz0 hz1 hz2 rfl (by decide) _ i (ints (rgs i)) rfl hpC ⟨W1.heap.size,0,none⟩ 1 1 (ints [(i:Int)]) rfl (by simp [ints]) hone (ints_one _) (by unfold maxLen;omega) (by omega) hszC ?_)
   intro vp' W3 hown3 hgrow3 hnil3 hat3
   have hex3:∃ g cap,vp' = .slice (some ⟨g,0,none⟩) (i+1) cap:=by
    rcases hown3.2 with ⟨e,e2⟩ | ⟨g,cap,cur,e,_⟩
    ·omega
    ·exact ⟨g,cap,e⟩
   obtain ⟨gp,capp,hvp'⟩:=hex3
   subst hvp'
   have k3:=grownBy_keeps' hgrow3 vp.ownBlock.toList (fun r e=>.inl (by rw [e];simp))
   have hlowp:∀ j∈vp.ownBlock.toList,z+1+1+1+1≤j:=fun j hj=>(ownE_base hpC j (by simpa using hj)).1
   have hc3:=hcC.keeps k3 (fun x=>by have:=hlowp _ x;omega)
   have q1:=hide (n1'.out.kept k3 (fun x=>by have:=hlowp _ x;omega))
   have q2:=hide (n2'.out.kept k3 (fun x=>by have:=hlowp _ x;omega))
   have q3:=hide (n3'.out.kept k3 (fun x=>by have:=hlowp _ x;omega))
   have ho3:=hide (ownsRow_kept hoC.out k3 (fun j hj x=>hap1 j j hj (by simpa using x) rfl))
   have hap3:ApartE (.slice (some ⟨go,0,none⟩) (i+1) capo) (.slice (some ⟨gp,0,none⟩) (i+1) capp):=by
    intro x y hx hy
    rcases hat3 with e | e
    ·rw [e] at hy;exact hap1 x y hx hy
    ·rw [e] at hy
     have h2:=(World.ownsRow.lt ho2.out x hx).2
     have h3:=Option.some.inj hy
     simp at h2 h3
     omega
   have hk3:Keeps [] w W3:=(hk2.trans kC).trans_new k3 (fun j hj=>.inr (by have:=hlowp j hj;have:=Hz.out;omega))
   have c30:=hc3.cell 1
   have f30:=hc3.frozen 1
   simp at c30
   have hs3:=hc3.setCell 1 (.slice (some ⟨gp,0,none⟩) (i+1) capp)
   have ks3:=Keeps.setCell W3 ⟨z+1+1+1,1,none⟩ (.slice (some ⟨gp,0,none⟩) (i+1) capp)
   have ho4:=hide (ownsRow_kept ho3.out ks3 (fun j hj=>hT j (ownE_base ho3.out j hj).1))
   have hp4:=hide (ownsRow_kept hown3 ks3 (fun j hj=>hT j (ownE_base hown3 j hj).1))
   have r1:=hide (q1.out.kept ks3 (by simp;omega))
   have r2:=hide (q2.out.kept ks3 (by simp))
   have r3:=hide (q3.out.kept ks3 (by simp))
   have hk4:Keeps [] w (W3.setCell ⟨z+1+1+1,1,none⟩ (.slice (some ⟨gp,0,none⟩) (i+1) capp)):=hk3.trans_new ks3 (fun j hj=>.inr (by simp only [List.mem_singleton] at hj;have:=Hz.out;omega))
   clear hown3 hgrow3 hnil3 hat3 hone hszC hpC hcC d1
   go_wp2_with fail
   go_roundw
   ·refine ⟨i+1,_,_,by simp,by omega,by simpa using hs3,hide ?_,hide ?_,hap3,r1.out,r2.out,r3.out,hk4⟩
    ·have:=ho4.out;rw [rgs_succ];simpa [ints] using this
    ·have:=hp4.out;rw [rgs_succ];simpa [ints] using this
   ·simp only [intOf];omega
  ·have hie:i=n:=by omega
   subst hie
   obtain ⟨go,capo,hvo,hgo,hro,hco⟩:=rowE_of (xs:=rgs i) (by rw [rgs_length];exact ho.out) (by rw [rgs_length];omega)
   obtain ⟨gp,capp,hvp,hgp,hrp,_⟩:=rowE_of (xs:=rgs i) (by rw [rgs_length];exact hp.out) (by rw [rgs_length];omega)
   rw [rgs_length] at hvo hvp hco
   subst hvo hvp
   have hne:go≠gp:=hap go gp rfl rfl
   have Hco:=hide hco
   clear hco
   clear ho hp hap hlt
   go_wp2_with fail
   go_ret
   refine ⟨⟨z+1+1+1,go,gp,z,z+1,z+1+1,capo,capp⟩,rfl,⟨by simpa [ST.mk0,rgs_length] using hc,hro,hrp,m1,m2,m3,?_⟩,?_,Hco.out,hk⟩
   ·simp [SB.own];omega
   ·intro j hj
    have:=Hz.out
    simp only [SB.own,List.mem_cons,List.not_mem_nil,or_false] at hj
    omega
end
section
open Go.RowKit
section
variable {P:Program} {K:TypeId} {α β:Type} {ek:α→Value} {ev:β→Value}
def MapRange (ek:α→Value) (ev:β→Value) (w:World) (rm it:Nat) (L:List (α×β)) (left:List α):Prop:=
 ∃ es clock since seen c0,w.heap[rm]?=some (.map es clock)∧es.toList.map (fun e=>(e.key,e.val))=L.map (fun p=>(ek p.1,ev p.2)) ∧
  (es.toList.map (·.born)).Nodup∧(∀ e∈es.toList,e.born<clock)∧(L.map Prod.fst).Nodup ∧
  w.heap[it]?=some (.mapIter (some rm) since seen c0)∧(∀ e∈es.toList,e.born<since)∧since≤c0∧since≤clock ∧
  (leftOf es seen).toList.map (·.key)=left.map ek
theorem MapRange.is {w:World} {rm it:Nat} {L:List (α×β)} {left:List α} (h:MapRange ek ev w rm it L left):MapIs ek ev w rm L:=by
 obtain ⟨es,clock,since,seen,c0,h1,h2,h3,h4,h5,h6⟩:=h
 exact ⟨es,clock,h1,h2,h3,h4,h5⟩
theorem MapRange.of_heap {w w':World} {rm it:Nat} {L:List (α×β)} {left:List α} (h:MapRange ek ev w rm it L left) (e1:w'.heap[rm]?=w.heap[rm]?) (e2:w'.heap[it]?=w.heap[it]?):MapRange ek ev w' rm it L left:=by
 obtain ⟨es,clock,since,seen,c0,h1,h2,h3,h4,h5,h6,h7⟩:=h
 exact ⟨es,clock,since,seen,c0,e1.trans h1,h2,h3,h4,h5,e2.trans h6,h7⟩
theorem MapRange.it_lt {w:World} {rm it:Nat} {L:List (α×β)} {left:List α} (h:MapRange ek ev w rm it L left):it<w.heap.size:=by
 obtain ⟨es,clock,since,seen,c0,h1,h2,h3,h4,h5,h6,h7⟩:=h
 exact (Array.getElem?_eq_some_iff.1 h6).1
theorem MapRange.ne {w:World} {rm it:Nat} {L:List (α×β)} {left:List α} (h:MapRange ek ev w rm it L left):rm≠it:=by
 obtain ⟨es,clock,since,seen,c0,h1,h2,h3,h4,h5,h6,h7⟩:=h
 intro e
 rw [e,h6] at h1
 cases h1
theorem leftOf_toList (es:Array MapEntry) (seen:Array Nat):(leftOf es seen).toList=es.toList.filter (fun e=>!seen.contains e.born):=by
 unfold leftOf
 simp
theorem run_maprange {T E:TypeId} (ht:P.underlying T=some (.map K E)) {w:World} {r:Nat} {L:List (α×β)} (h:MapIs ek ev w r L) :
  ∃ o,(Instr.range T (.map (some r))).run P w=.ok (.pointer (some ⟨w.heap.size,0,none⟩)) (w.alloc o)∧MapRange ek ev (w.alloc o) r w.heap.size L (L.map Prod.fst):=by
 obtain ⟨es,clock,h1,h2,h3,h4,h5⟩:=h
 refine ⟨.mapIter (some r) clock #[] clock,?_,es,clock,clock,#[],clock,?_,h2,h3,h4,h5,(MapKept.heap_alloc w _).1,h4,Nat.le_refl _,Nat.le_refl _,?_⟩
 ·unfold Instr.range
  simp only [Sem.run_bind,run_underlying ht,Result.andThen_ok,MapKept.run_getObj_map h1]
  rfl
 ·exact ((MapKept.heap_alloc w _).2 r (Array.getElem?_eq_some_iff.1 h1).1).trans h1
 ·rw [leftOf_toList]
  have:es.toList.filter (fun e=>!(#[]:Array Nat).contains e.born)=es.toList:=by rw [List.filter_eq_self];intro a _;simp
  rw [this]
  have:=congrArg (List.map Prod.fst) h2
  simpa [List.map_map,Function.comp_def] using this
theorem nodup_map_inj {γ δ:Type} {f:γ→δ}:∀ {l:List γ},(l.map f).Nodup→∀ x∈l,∀ y∈l,f x=f y→x=y
 | [],_,x,hx,_,_,_=>by cases hx
 | a :: l,h,x,hx,y,hy,e=>by
  simp only [List.map_cons,List.nodup_cons] at h
  rcases List.mem_cons.1 hx with ex | hx2
  ·rcases List.mem_cons.1 hy with ey | hy2
   ·rw [ex,ey]
   ·exact absurd (List.mem_map.2 ⟨y,hy2,by rw [←e,ex]⟩) h.1
  ·rcases List.mem_cons.1 hy with ey | hy2
   ·exact absurd (List.mem_map.2 ⟨x,hx2,by rw [e,ey]⟩) h.1
   ·exact nodup_map_inj h.2 x hx2 y hy2 e
theorem map_nodup_inj {γ δ:Type} {f:γ→δ} (hf:∀ a b,f a=f b→a=b):∀ {l:List γ},l.Nodup→(l.map f).Nodup
 | [],_=>by simp
 | a :: l,h=>by
  simp only [List.nodup_cons,List.map_cons] at h ⊢
  exact ⟨fun x=>by obtain ⟨b,hb,e⟩:=List.mem_map.1 x;exact h.1 (hf _ _ e ▸ hb),map_nodup_inj hf h.2⟩
theorem left_filter [DecidableEq α] (hinj:∀ a b,ek a=ek b→a=b) (a:α) (b:Nat):∀ (l:List MapEntry) (left:List α),l.map (·.key)=left.map ek→(∀ e∈l,e.born=b↔e.key=ek a) →
  (l.filter (fun e=>decide (e.born≠b))).map (·.key)=(left.filter (fun c=>decide (c≠a))).map ek
 | [],[],_,_=>by simp
 | [],_ :: _,h,_=>by simp at h
 | _ :: _,[],h,_=>by simp at h
 | e :: l,c :: left,h,hb=>by
  simp only [List.map_cons,List.cons.injEq] at h
  have ih:=left_filter hinj a b l left h.2 (fun x hx=>hb x (List.mem_cons_of_mem _ hx))
  have hiff:=hb e (by simp)
  by_cases hc:c=a
  ·have e1:e.born=b:=hiff.2 (by rw [h.1,hc])
   rw [List.filter_cons_of_neg (by simp [e1]),List.filter_cons_of_neg (by simp [hc])]
   exact ih
  ·have e1:e.born≠b:=fun x=>hc (hinj _ _ (by rw [←h.1];exact hiff.1 x))
   rw [List.filter_cons_of_pos (by simpa using e1),List.filter_cons_of_pos (by simpa using hc),List.map_cons,List.map_cons,h.1,ih]
theorem MapRange.next [DecidableEq α] (hinj:∀ a b,ek a=ek b→a=b) {w:World} {rm it:Nat} {L:List (α×β)} {left:List α} (h:MapRange ek ev w rm it L left) (ty:TypeId) :
  (left=[]∧(Instr.next (.pointer (some ⟨it,0,none⟩)) false ty).run P w=.ok (.tuple #[.bool false]) w) ∨
  ∃ a v w',a∈left∧get L a=some v∧(Instr.next (.pointer (some ⟨it,0,none⟩)) false ty).run P w=.ok (.tuple #[.bool true,ek a,ev v]) w' ∧
   (Instr.entry (.pointer (some ⟨it,0,none⟩))).run P w' = .ok (.tuple #[ek a,ev v]) w' ∧
   MapRange ek ev w' rm it L (left.filter (fun b=>decide (b≠a)))∧Keeps [it] w w'∧w'.heap.size=w.heap.size:=by
 have hne:=h.ne
 obtain ⟨es,clock,since,seen,c0,h1,h2,h3,h4,h5,h6,h7,h8,hsc,h9⟩:=h
 rcases run_next_at (P:=P) w ty it rm since c0 seen es clock h6 h1 h7 h8 with ⟨h0,hrun⟩ | ⟨e,he,w1,hw1,hrun⟩
 ·left
  refine ⟨?_,hrun⟩
  have:(leftOf es seen).toList=[]:=by rw [←List.length_eq_zero_iff];simpa using h0
  rw [this] at h9
  simpa using h9.symm
 ·right
  have hmem:e∈es.toList:=by rw [leftOf_toList] at he;exact (List.mem_filter.1 he).1
  have hns:seen.contains e.born=false:=by rw [leftOf_toList] at he;simpa using (List.mem_filter.1 he).2
  obtain ⟨p,hp,hpe⟩:∃ p∈L,(ek p.1,ev p.2)=(e.key,e.val):=by
   have:(e.key,e.val)∈L.map (fun p=>(ek p.1,ev p.2)):=by rw [←h2];exact List.mem_map.2 ⟨e,hmem,rfl⟩
   obtain ⟨p,hp,hq⟩:=List.mem_map.1 this
   exact ⟨p,hp,hq⟩
  obtain ⟨a,v⟩:=p
  simp only [Prod.mk.injEq] at hpe
  obtain ⟨hk,hv⟩:=hpe
  have hal:a∈left:=by
   have:e.key∈left.map ek:=by rw [←h9];exact List.mem_map.2 ⟨e,he,rfl⟩
   obtain ⟨b,hb,hbe⟩:=List.mem_map.1 this
   rw [←hk] at hbe
   rwa [←hinj _ _ hbe]
  have hw1h:w1.heap=w.heap:=by rcases hw1 with rfl | rfl <;> rfl
  have hblk:(ChangeMaps.setBlock w1 it (.mapIter (some rm) since (seen.push e.born) clock))=blk w1 it (.mapIter (some rm) since (seen.push e.born) clock):=rfl
  rw [hblk] at hrun
  have hit1:w1.heap[it]?=some (.mapIter (some rm) since seen c0):=by rw [hw1h];exact h6
  have hit:(blk w1 it (.mapIter (some rm) since (seen.push e.born) clock)).heap[it]?=some (.mapIter (some rm) since (seen.push e.born) clock):=blk_same hit1
  have hrm:(blk w1 it (.mapIter (some rm) since (seen.push e.born) clock)).heap[rm]?=some (.map es clock):=by rw [blk_other _ hne,hw1h];exact h1
  refine ⟨a,v,_,hal,get_of_mem h5 hp,by rw [hk,hv];exact hrun,?_,?_,?_,?_⟩
  ·rw [hk,hv];exact run_entry_at _ it rm since seen es clock e hit hrm hmem h3
  ·refine ⟨es,clock,since,seen.push e.born,clock,hrm,h2,h3,h4,h5,hit,h7,hsc,hsc,?_⟩
   ·have hkn:(es.toList.map (·.key)).Nodup:=by
     have e1:es.toList.map (·.key)=(L.map Prod.fst).map ek:=by
      have:=congrArg (List.map Prod.fst) h2
      simpa [List.map_map,Function.comp_def] using this
     rw [e1]
     exact map_nodup_inj hinj h5
    have e2:(leftOf es (seen.push e.born)).toList=(leftOf es seen).toList.filter (fun x=>decide (x.born≠e.born)):=by
     rw [leftOf_toList,leftOf_toList,List.filter_filter]
     apply List.filter_congr
     intro x _
     simp only [Array.contains_push]
     by_cases hx:x.born=e.born
     ·simp [hx]
     ·simp [hx]
    rw [e2]
    refine left_filter hinj a e.born _ _ h9 (fun x hx=>?_)
    have hxm:x∈es.toList:=by rw [leftOf_toList] at hx;exact (List.mem_filter.1 hx).1
    constructor
    ·intro hb
     rw [nodup_map_inj h3 x hxm e hmem hb,hk]
    ·intro hb
     rw [nodup_map_inj hkn x hxm e hmem (by rw [hb,hk])]
  ·refine ⟨?_,?_,?_,?_,?_⟩
   ·rcases hw1 with rfl | rfl <;> rfl
   ·rcases hw1 with rfl | rfl <;> rfl
   ·rcases hw1 with rfl | rfl <;> rfl
   ·simp [blk,hw1h]
   ·intro i _ hi
    rw [blk_other _ (by simpa using hi),hw1h]
  ·simp [blk,hw1h]
theorem MapRange.del [DecidableEq α] {T E:TypeId} (ht:P.underlying T=some (.map K E)) (hk:KeyOk P K ek) (hinj:∀ a b,ek a=ek b→a=b) {w:World} {rm it:Nat} {L:List (α×β)} {left:List α} (h:MapRange ek ev w rm it L left) (a:α) (ha:a∉left) (ty:TypeId) :
  ∃ o,(Builtin.delete_ #[T,K] ty #[.map (some rm),ek a]).run P w=.ok (.tuple #[]) (blk w rm o)∧MapRange ek ev (blk w rm o) rm it (del L a) left:=by
 have hne:=h.ne
 obtain ⟨es,clock,since,seen,c0,h1,h2,h3,h4,h5,h6,h7,h8,hsc,h9⟩:=h
 have hcell:(#[Value.map (some rm),ek a])[0]?=some (.map (some rm)):=rfl
 have hcell1:(#[Value.map (some rm),ek a])[1]?=some (ek a):=rfl
 have hty:(#[T,K])[0]?=some T:=rfl
 unfold Builtin.delete_
 simp only [hcell,hcell1,hty,Sem.run_bind,run_underlying ht,Result.andThen_ok,MapKept.run_getObj_map h1,hk.check,findKey_ok hk a w es.toList L h2]
 rcases spot_spec (ev:=ev) a L 0 with ⟨hs,hg⟩ | ⟨j,v0,hs,hg,hj⟩
 ·rw [hs,del_absent hg]
  refine ⟨.map es clock,?_,es,clock,since,seen,c0,blk_same h1,h2,h3,h4,h5,(blk_other _ hne.symm).trans h6,h7,h8,hsc,h9⟩
  rw [Sem.run_bind,MapKept.run_setObj_map _ h1]
  rfl
 ·rw [hs]
  have hlen:es.toList.length=L.length:=by have:=congrArg List.length h2;simpa using this
  have hjl:j<L.length:=(List.getElem?_eq_some_iff.1 hj).1
  have hje:j<es.toList.length:=by rw [hlen];exact hjl
  have hE:(es.eraseIdxIfInBounds (0+j)).toList=es.toList.eraseIdx j:=by simp
  have hkey:(es.toList[j]).key=ek a:=by
   have:=congrArg (fun l:List (Value×Value)=>l[j]?) h2
   simp only [List.getElem?_map,hj,Option.map_some,List.getElem?_eq_getElem hje,Option.some.injEq,Prod.mk.injEq] at this
   exact this.1
  refine ⟨.map (es.eraseIdxIfInBounds (0+j)) clock,?_,_,clock,since,seen,c0,blk_same h1,?_,?_,?_,nodup_del h5 a,(blk_other _ hne.symm).trans h6,?_,h8,hsc,?_⟩
  ·rw [Sem.run_bind,MapKept.run_setObj_map _ h1]
   rfl
  ·rw [hE,del_erases h5 hj,ChangeMaps.map_eraseIdx,ChangeMaps.map_eraseIdx,h2]
  ·rw [hE,ChangeMaps.map_eraseIdx]
   exact h3.sublist (List.eraseIdx_sublist _ _)
  ·rw [hE];intro e he;exact h4 e ((List.eraseIdx_sublist _ _).mem he)
  ·rw [hE];intro e he;exact h7 e ((List.eraseIdx_sublist _ _).mem he)
  ·rw [leftOf_toList,hE,←h9,leftOf_toList]
   congr 1
   have hseen:(!seen.contains (es.toList[j]).born)=false:=by
    cases hc:(!seen.contains (es.toList[j]).born) with
    | false=>rfl
    | true=>
     exfalso
     have hm:es.toList[j]∈(leftOf es seen).toList:=by rw [leftOf_toList];exact List.mem_filter.2 ⟨List.getElem_mem _,hc⟩
     have:(es.toList[j]).key∈left.map ek:=by rw [←h9];exact List.mem_map.2 ⟨_,hm,rfl⟩
     obtain ⟨b,hb,hbe⟩:=List.mem_map.1 this
     rw [hkey] at hbe
     exact ha (hinj _ _ hbe ▸ hb)
   have key:∀ (l:List MapEntry) (j:Nat) (hj:j<l.length),(!seen.contains (l[j]).born)=false→(l.eraseIdx j).filter (fun e=>!seen.contains e.born)=l.filter (fun e=>!seen.contains e.born):=by
    intro l
    induction l with
    | nil=>intro j hj;simp at hj
    | cons x l ih=>
     intro j hj hb
     cases j with
     | zero=>rw [List.eraseIdx_cons_zero,List.filter_cons_of_neg (by simpa using hb)]
     | succ j=>
      rw [List.eraseIdx_cons_succ]
      have:=ih j (by simpa using hj) (by simpa using hb)
      rw [List.filter_cons,List.filter_cons,this]
   exact key es.toList j hje hseen
end
end
end Go.Proofs.YtgjomknpjigkhaaGreatDoor
