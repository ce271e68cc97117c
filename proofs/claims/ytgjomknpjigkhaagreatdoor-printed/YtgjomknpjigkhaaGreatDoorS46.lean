import Derived.Test.YtgjomknpjigkhaaGreatDoorS45
import Derived.Maps.OwnIn
namespace Go.Proofs.YtgjomknpjigkhaaGreatDoor
set_option maxRecDepth 100000
set_option maxHeartbeats 4000000
section
open Go.RowKit Go.Shelf
attribute [local go_sem] Oper.semAt_some
theorem tupsOf_rep {S:ST} {f:Int} {n:Nat} {R:List Nat→Prop} (h:Rep S f n R) (p:List Nat→Bool) (hp:∀ l,p l=true↔R l):tupsOf S f n=(alls n).filter p:=by
 unfold tupsOf ST.trues
 rw [show (0:Nat)=3 * 0 from rfl,asgs_asn n 0,List.filter_map,List.map_map]
 have e:∀ l∈alls n,(tupY n ∘ (asnF · 0)) l=l:=fun l hl=>tup_asn 0 hl
 have e2:(alls n).filter ((fun y=>S.den f (asg (y:Nat))) ∘ (asnF · 0))=(alls n).filter p:=by
  apply List.filter_congr
  intro l hl
  have h1:=h.2 (asg ((asnF l 0:Nat):Int))
  rw [tup_asn 0 hl] at h1
  show S.den f (asg ((asnF l 0:Nat):Int))=p l
  rw [Bool.eq_iff_iff,h1,hp]
 rw [e2]
 conv=>rhs;rw [←List.map_id ((alls n).filter p)]
 apply List.map_congr_left
 intro l hl
 exact e l (List.mem_filter.1 hl).1
section
variable {w:World} {bb gr cr:Nat} {B:SB} {S:ST} {rs:List RelX} {x0 x1 x3:Value}
theorem btup_calls (h:Bse w bb B S gr cr rs x0 x1 x3) {i:Nat} {r:RelX} (hi:rs[i]?=some r):Calls Tryz.prog 40 #[.pointer (some ⟨bb,0,none⟩),.int .i64 (i:Int)] w fun e w'=>e=.returned (.func (.func 78) #[] #[.pointer (some ⟨w.heap.size,0,none⟩),.pointer (some ⟨w.heap.size+1,0,none⟩)])∧w' = (w.alloc (.cells #[.pointer (some ⟨bb,0,none⟩)] 86)).alloc (.cells #[.slice r.sa r.n r.cc,.int .i64 (r.layer:Int),.int .i64 r.fa,.int .i64 r.tu,.map (some r.rm)] 148):=by
 have hmf:∀ (fn:Fn) (first cap:Array Value) (w:World),(Instr.makeFunc fn first cap).run Tryz.prog w=.ok (.func fn first cap) w:=fun _ _ _ _=>rfl
 have kA:=Keeps.alloc [] w (.cells #[.pointer (some ⟨bb,0,none⟩)] 86)
 have zA:=sizeE_alloc w (.cells #[.pointer (some ⟨bb,0,none⟩)] 86)
 obtain ⟨cs,hc,hcs⟩:=(h.keeps0 kA).rel
 have hil:(i:Int)<rs.length:=by have:=(List.getElem?_eq_some_iff.1 hi).1;omega
 have g0:(w.alloc (.cells #[.pointer (some ⟨bb,0,none⟩)] 86)).cell? ⟨gr,i * 5,none⟩=some (.slice r.sa r.n r.cc):=by rw [hc.cell];exact (hcs i r hi).c0
 have g1:(w.alloc (.cells #[.pointer (some ⟨bb,0,none⟩)] 86)).cell? ⟨gr,i * 5+1,none⟩=some (.int .i64 (r.layer:Int)):=by rw [hc.cell];exact (hcs i r hi).c1
 have g2:(w.alloc (.cells #[.pointer (some ⟨bb,0,none⟩)] 86)).cell? ⟨gr,i * 5+2,none⟩=some (.int .i64 r.fa):=by rw [hc.cell];exact (hcs i r hi).c2
 have g3:(w.alloc (.cells #[.pointer (some ⟨bb,0,none⟩)] 86)).cell? ⟨gr,i * 5+3,none⟩=some (.int .i64 r.tu):=by rw [hc.cell];exact (hcs i r hi).c3
 have g4:(w.alloc (.cells #[.pointer (some ⟨bb,0,none⟩)] 86)).cell? ⟨gr,i * 5+4,none⟩=some (.map (some r.rm)):=by rw [hc.cell];exact (hcs i r hi).c4
 have b2:=(h.keeps0 kA).cells.cell 2
 simp at b2
 clear hi hc hcs
 generalize hWA:w.alloc (.cells #[.pointer (some ⟨bb,0,none⟩)] 86)=WA at *
 have hAA:WA.cell? ⟨w.heap.size,0,none⟩=some (.pointer (some ⟨bb,0,none⟩)):=by rw [←hWA];exact (CellsAt.new w #[.pointer (some ⟨bb,0,none⟩)] 86).cell 0
 go_enter Tryz.func40,Tryz.ntmps40
 go_wp2_with fail
 go_ret
 exact ⟨rfl,rfl⟩
end
theorem info40T:(Tryz.prog.info? 40).map (fun i=>(i.zero,i.size,i.bytes))=some (some (.slice none 0 0),1,24):=by kernel_rfl
def TupI (w3:World) (b lc n:Nat) (pre:List (List Nat×Nat)) (W:World):Prop:=∃ v,W.heap[lc]?=some (.cells #[v] 37 (0,0))∧W.ownsRow b 40 1 v pre.length (pre.map fun x=>.slice (some ⟨x.2,0,none⟩) n n)∧(∀ x∈pre,b≤x.2∧RowT W x.2 n x.1)∧b≤W.heap.size∧∀ i,i<b→i≠lc→W.heap[i]?=w3.heap[i]?
def TupTo (n:Nat) (L:List (List Nat)) (w:World) (e:Ending) (w':World):Prop:=∃ (v:Value) (xs:List (List Nat×Nat)),e=.returned (.tuple #[v,.int .i64 0])∧xs.map (·.1)=L∧w'.ownsRow w.heap.size 40 1 v xs.length (xs.map fun x:List Nat×Nat=>.slice (some ⟨x.2,0,none⟩) n n)∧(∀ x∈xs,w.heap.size≤x.2∧RowT w' x.2 n x.1)∧Keeps [] w w'
theorem tupsOf_len (S:ST) (f:Int) {n:Nat} (h3:n≤3):(tupsOf S f n).length≤512:=by
 unfold tupsOf ST.trues
 rw [List.length_map,show (0:Nat)=3 * 0 from rfl,asgs_asn n 0]
 refine Nat.le_trans (List.length_filter_le _ _) ?_
 rw [List.length_map]
 exact alls_len _ h3
theorem cells_set {w:World} {g:Nat} {cs:Array Value} {t:TypeId} (h:w.heap[g]?=some (.cells cs t (0,0))) (k:Nat) (v:Value):(w.setCell ⟨g,k,none⟩ v).heap[g]?=some (.cells (cs.setIfInBounds k v) t (0,0)):=by
 have hg:=(Array.getElem?_eq_some_iff.1 h).1
 unfold World.setCell at *
 simp [Array.getElem?_modify,h]
theorem tuples_in {w:World} {z eb bb:Nat} {B:SB} {S:ST} {gr cr:Nat} {rs:List RelX} {tv mv:Value} {ka:Option Addr} {ks:List CluX} {kc:Nat} {m:Mean} {vals:List Nat} {Fs:Nat→List Nat→Prop} {rk:Nat→List Nat→Option Nat} (h:EngIs w z bb B S gr cr rs tv mv ka ks kc m vals Fs rk) (he:CellsAt w eb #[.pointer (some ⟨bb,0,none⟩)]) {s:ByteArray} {i:Nat} (hs:placeB (m.rels.map Prod.fst) s=some i) {r:RelX} (hi:rs[i]?=some r) (hn1:1≤r.n) :
  CallsIn Fence.wide 0 Tryz.prog 18 #[.pointer (some ⟨eb,0,none⟩),.string s] w (TupTo r.n (tupsOf S r.tu r.n) w):=by
 obtain ⟨i4,hi4,hx0,hx1,hx2⟩:=info_parts info40T
 have hn3:=h.bse.cols r (List.mem_of_getElem? hi)
 have hpl:=hide (place_says h.bse h.set s)
 rw [hs] at hpl
 have e0:=he.cell 0
 simp at e0
 have kL:=Keeps.alloc [] w (.cells #[.slice none 0 0] 37)
 have zL:=sizeE_alloc w (.cells #[.slice none 0 0] 37)
 have hL:(w.alloc (.cells #[.slice none 0 0] 37)).heap[w.heap.size]?=some (.cells #[.slice none 0 0] 37 (0,0)):=World.alloc_heap_new w _
 have hbL:=h.bse.keeps0 kL
 have heL:=he.keeps kL (by simp)
 have e1:=heL.cell 0
 simp at e1
 have hbt:=hide (btup_calls hbL hi)
 rw [zL] at hbt
 clear hs
 generalize hWL:w.alloc (.cells #[.slice none 0 0] 37)=WL at *
 refine callsIn_of_wp_marks Tryz.func18 rfl trivial ?_ rfl
 simp only [Tryz.ntmps18,List.size_toArray,List.length_cons,List.length_nil,Nat.reduceAdd,Nat.reduceSub,Array.replicate_succ,Array.replicate_zero,List.push_toArray,List.append_toArray,List.nil_append,List.cons_append]
 refine wpIn_wide.2 ?_
 go_wp2_with fail
 refine hpl.out.mono ?_
 rintro e w1 ⟨rfl,rfl⟩
 go_wp2_with fail
 refine hbt.out.mono ?_
 rintro e w2 ⟨rfl,rfl⟩
 go_wp2_with fail
 have kA:=Keeps.alloc [] WL (.cells #[.pointer (some ⟨bb,0,none⟩)] 86)
 have hA:=CellsAt.new WL #[.pointer (some ⟨bb,0,none⟩)] 86
 have kB:=Keeps.alloc [] (WL.alloc (.cells #[.pointer (some ⟨bb,0,none⟩)] 86)) (.cells #[.slice r.sa r.n r.cc,.int .i64 (r.layer:Int),.int .i64 r.fa,.int .i64 r.tu,.map (some r.rm)] 148)
 have hB:=CellsAt.new (WL.alloc (.cells #[.pointer (some ⟨bb,0,none⟩)] 86)) #[.slice r.sa r.n r.cc,.int .i64 (r.layer:Int),.int .i64 r.fa,.int .i64 r.tu,.map (some r.rm)] 148
 have z2:((WL.alloc (.cells #[.pointer (some ⟨bb,0,none⟩)] 86)).alloc (.cells #[.slice r.sa r.n r.cc,.int .i64 (r.layer:Int),.int .i64 r.fa,.int .i64 r.tu,.map (some r.rm)] 148)).heap.size=w1.heap.size+1+1+1:=by rw [sizeE_alloc,sizeE_alloc,zL]
 rw [sizeE_alloc,zL] at hB
 rw [zL] at hA
 have hA2:=hA.keeps kB (by simp)
 have kAB:=kA.trans kB
 have hL2:((WL.alloc (.cells #[.pointer (some ⟨bb,0,none⟩)] 86)).alloc (.cells #[.slice r.sa r.n r.cc,.int .i64 (r.layer:Int),.int .i64 r.fa,.int .i64 r.tu,.map (some r.rm)] 148)).heap[w1.heap.size]?=some (.cells #[.slice none 0 0] 37 (0,0)):=(kAB.block _ (by omega) (by simp)).trans hL
 generalize (WL.alloc (.cells #[.pointer (some ⟨bb,0,none⟩)] 86)).alloc (.cells #[.slice r.sa r.n r.cc,.int .i64 (r.layer:Int),.int .i64 r.fa,.int .i64 r.tu,.map (some r.rm)] 148)=W2 at *
 have kW2:Keeps [] w1 W2:=kL.trans kAB
 have hb2:=hbL.keeps0 kAB
 have hbl:=h.bse.cells.lt
 have hit:=tup_iter (w:=W2) hb2.eng hA2 hB hb2.bs (h.all i r hi).tu hn1 hn3 [w1.heap.size] (fun t ht=>by
  simp only [List.mem_singleton] at ht
  subst ht
  exact ⟨by omega,h.bse.eng.sat.fresh (Nat.le_refl _),by omega,by omega,by omega⟩)
 refine (wpIn_wide (n:=0)).1 ?_
 refine range_lawT (gf:=78) (lb:=#[.pointer (some ⟨w1.heap.size+1,0,none⟩),.pointer (some ⟨w1.heap.size+1+1,0,none⟩)]) rfl (enters_of Tryz.func78 (by kernel_rfl) rfl) (T:=[w1.heap.size]) (by simp;omega) hit
  (fun pre x W1 W3 hc hs=>⟨hc.1,hc.2.1,hc.2.2.still hs⟩) (fun _=>rfl)
  (TupI W2 W2.heap.size w1.heap.size r.n)
  (fun pre W1 W3 hI hs=>by
   obtain ⟨v,a1,a2,a3,a4,a5⟩:=hI
   exact ⟨v,(hs.block _ (Array.getElem?_eq_some_iff.1 a1).1 (.inr ⟨_,_,_,a1⟩)).trans a1,still_row a2 hs,fun x hx=>⟨(a3 x hx).1,(a3 x hx).2.still hs⟩,Nat.le_trans a4 hs.size,fun j hj hne=>(hs.block j (by omega) (.inl hj)).trans (a5 j hj hne)⟩) ⟨_,hL2,World.ownsRow_nil ..,by simp,Nat.le_refl _,fun _ _ _=>rfl⟩
  (fun x a' _=>a' = { tmps:=#[.pointer (some ⟨eb,0,none⟩),.string s,undef,undef,.slice none 0 0,.int .i64 0,.int .i64 (i:Int),.bool true,.pointer (some ⟨w1.heap.size,0,none⟩),.slice (some ⟨x.2,0,none⟩) r.n r.n,.tuple #[.int .i64 (i:Int),.bool true],.pointer (some ⟨eb,0,none⟩),.pointer (some ⟨eb,0,none⟩),.pointer (some ⟨eb,0,none⟩),.pointer (some ⟨bb,0,none⟩),.string s,.tuple #[.int .i64 (i:Int),.bool true],.int .i64 (i:Int),.bool true,.bool true,.bool false,.pointer (some ⟨eb,0,none⟩),.pointer (some ⟨eb,0,none⟩),.pointer (some ⟨eb,0,none⟩),.pointer (some ⟨bb,0,none⟩),.int .i64 (i:Int),.func (.func 78) #[] #[.pointer (some ⟨w1.heap.size+1,0,none⟩),.pointer (some ⟨w1.heap.size+1+1,0,none⟩)],.slice (some ⟨x.2,0,none⟩) r.n r.n,undef,undef,undef,undef,undef],defers:=[] })
  (fun _ _ _ _ h _=>h) ?assign ?body ?done
 case assign=>
  intro l1 pre x W' K hlt hI hc hK
  simp only [eTu,List.zip_toArray,List.zip_cons_cons,List.zip_nil_right,List.foldl_toArray',List.size_toArray,List.length_cons,List.length_nil,List.foldl_cons,List.foldl_nil,List.setIfInBounds_toArray,List.set_cons_succ,List.set_cons_zero]
  gi_wp2
  exact hK _ _ rfl (Keeps.refl _ _)
 case body=>
  rintro l1 pre x a' W' hlt ⟨v,a1,a2,a3,a4,a5⟩ ⟨c1,c2,c3⟩ rfl
  have hLc:CellsAt W' w1.heap.size #[v]:=⟨_,a1⟩
  have d0:=hLc.cell 0
  simp at d0
  obtain ⟨va,vc,hv⟩:=ownE_len a2
  subst hv
  have kC:=Keeps.alloc [] W' (.cells #[.slice (some ⟨x.2,0,none⟩) r.n r.n] 40)
  have zC:=sizeE_alloc W' (.cells #[.slice (some ⟨x.2,0,none⟩) r.n r.n] 40)
  have hrowC:=ownsRow_kept a2 kC (by simp)
  have hplen:pre.length≤4000:=by
   have:=c1.length_le
   rw [List.length_map,List.length_append] at this
   have:=tupsOf_len S r.tu hn3
   omega
  have Hz2:=hide z2
  clear z2
  have hone:∀ (j:Nat) (u:Value),[Value.slice (some ⟨x.2,0,none⟩) r.n r.n][j]?=some u→(W'.alloc (.cells #[.slice (some ⟨x.2,0,none⟩) r.n r.n] 40)).cell? ((⟨W'.heap.size,0,none⟩:Addr).add j)=some u:=by
   intro j u hu
   rw [Addr.add_lit,Nat.zero_add,(CellsAt.new W' #[.slice (some ⟨x.2,0,none⟩) r.n r.n] 40).cell]
   match j with
   | 0=>simpa using hu
   | j+1=>simp at hu
  gi_wp2_with (gi_at_builtin;refine wpListIn_append_own_at _ rfl _ _ 37 rfl W2.heap.size 40 i4 _ 1 24 Tryz.underlying37 hi4 hx0 hx1 hx2 rfl (by decide) _ pre.length _ rfl hrowC ⟨W'.heap.size,0,none⟩ 1 1 [.slice (some ⟨x.2,0,none⟩) r.n r.n] rfl (by simp) hone (by simp [Value.oneCell']) (by unfold maxLen;omega) (by omega) (by rw [zC];omega) ?_)
  intro v6 W6 hown6 hgrow6 hnil6 hat6
  obtain ⟨g6,cp6,rfl⟩:=ownE_succ hown6
  have k6:=grownBy_keeps' hgrow6 (ownL (.slice va pre.length vc)) (fun r e=>.inl (by simp [ownL,e]))
  have hlow:∀ j∈ownL (.slice va pre.length vc),W2.heap.size≤j∧∃ cs,(W'.alloc (.cells #[.slice (some ⟨x.2,0,none⟩) r.n r.n] 40)).heap[j]?=some (.cells cs 40 (0,0)):=fun j hj=>⟨(ownE_base hrowC j (by simpa [ownL] using hj)).1,ownE_tag hrowC j (by simpa [ownL] using hj)⟩
  have hLC2:w1.heap.size<W2.heap.size:=by have:=Hz2.out;omega
  have hL6:W6.heap[w1.heap.size]?=some (.cells #[.slice va pre.length vc] 37 (0,0)):=(k6.block _ (by omega) (fun hm=>by have:=(hlow _ hm).1;omega)).trans ((kC.block _ (by omega) (by simp)).trans a1)
  have hL6c:CellsAt W6 w1.heap.size #[.slice va pre.length vc]:=⟨_,hL6⟩
  have d6:=hL6c.cell 0
  have f6:=hL6c.frozen 0
  simp at d6
  have kS:=Keeps.setCell W6 ⟨w1.heap.size,0,none⟩ (.slice (some ⟨g6,0,none⟩) (pre.length+1) cp6)
  have hL7:=cells_set hL6 0 (.slice (some ⟨g6,0,none⟩) (pre.length+1) cp6)
  have hrow7:∀ (q:List Nat×Nat),W2.heap.size≤q.2→RowT W' q.2 r.n q.1→RowT (W6.setCell ⟨w1.heap.size,0,none⟩ (.slice (some ⟨g6,0,none⟩) (pre.length+1) cp6)) q.2 r.n q.1:=fun q hq1 hq=>by
   have q1:=hq.keeps kC (by simp)
   refine (q1.keeps k6 (fun hm=>?_)).keeps kS (by simp;omega)
   obtain ⟨_,cs,e⟩:=hlow _ hm
   obtain ⟨cs2,e2,_⟩:=q1
   rw [show (W'.alloc (.cells #[.slice (some ⟨x.2,0,none⟩) r.n r.n] 40)).heap[q.2]?=_ from e2] at e
   cases e
  have hown7:=ownsRow_kept hown6 kS (fun j hj hm=>by
   simp only [List.mem_singleton] at hm
   have:=(ownE_base hown6 j hj).1
   omega)
  have g7:GrT W2.heap.size 40 [w1.heap.size] W' (W6.setCell ⟨w1.heap.size,0,none⟩ (.slice (some ⟨g6,0,none⟩) (pre.length+1) cp6)):=((kC.grT (by simp)).trans (k6.grTrow (fun j hj=>.inr ⟨(hlow j hj).1,by obtain ⟨cs,e⟩:=(hlow j hj).2;exact ⟨cs,_,e⟩⟩))).trans (kS.grT (by simp))
  have Hfin:Hid (TupI W2 W2.heap.size w1.heap.size r.n (pre++[x]) (W6.setCell ⟨w1.heap.size,0,none⟩ (.slice (some ⟨g6,0,none⟩) (pre.length+1) cp6))∧GrT W2.heap.size 40 [w1.heap.size] W' (W6.setCell ⟨w1.heap.size,0,none⟩ (.slice (some ⟨g6,0,none⟩) (pre.length+1) cp6))):=hide ⟨⟨_,by simpa using hL7,by rw [List.length_append,List.map_append];exact hown7,fun q hq=>by
    rcases List.mem_append.1 hq with hq | hq
    ·exact ⟨(a3 q hq).1,hrow7 q (a3 q hq).1 (a3 q hq).2⟩
    ·simp only [List.mem_singleton] at hq
     subst hq
     exact ⟨c2,hrow7 q c2 c3⟩,Nat.le_trans a4 g7.size,fun j hj hne=>(g7.block j (by omega) (by simpa using hne) (fun q=>by have:=q.1;omega)).trans (a5 j hj hne)⟩,g7⟩
  clear g7 hown7 hrow7 hL7 hlow hgrow6 hnil6 hat6 hown6 hrowC hone hit
  gi_wp2_with fail
  exact Hfin.out
 case done=>
  rintro xs W9 hG ⟨v,a1,a2,a3,a4,a5⟩ hg9 hlt9 hD
  have hLc:CellsAt W9 w1.heap.size #[v]:=⟨_,a1⟩
  have d0:=hLc.cell 0
  simp at d0
  have kP:=Keeps.putObj W9 W2.heap.size (.deferred none)
  have sP:Still W2.heap.size W9 (W9.putObj W2.heap.size (.deferred none)):=kP.still (by simp only [List.mem_singleton];rintro i rfl;exact ⟨Nat.le_refl _,by rw [hD];intro _ _ _ e;cases e⟩)
  have Hrow:=hide (ownsRow_base (still_row a2 sP) (show w1.heap.size≤W2.heap.size by omega))
  have Hk:Hid (Keeps [] w1 (W9.putObj W2.heap.size (.deferred none))):=hide ⟨hg9.os.trans kW2.os,hg9.tape.trans kW2.tape,hg9.output.trans kW2.output,Nat.le_trans kW2.size (Nat.le_trans hg9.size kP.size),fun j hj _=>by
   rw [kP.block j (by have:=hg9.size;omega) (by simp;omega),a5 j (by omega) (by omega)]
   exact kW2.block j hj (by simp)⟩
  clear hit a2
  go_wp2_with fail
  refine ⟨by simp,.inl ⟨_,_,rfl,run_takeDeferred hD,?_⟩⟩
  refine ⟨_,results_tmp2 rfl _ _ _,v,xs,rfl,hG,Hrow.out,fun x hx=>⟨by have:=(a3 x hx).1;omega,(a3 x hx).2.still sP⟩,Hk.out⟩
theorem tuples18_calls {w:World} {z eb bb:Nat} {B:SB} {S:ST} {gr cr:Nat} {rs:List RelX} {tv mv:Value} {ka:Option Addr} {ks:List CluX} {kc:Nat} {m:Mean} {vals:List Nat} {Fs:Nat→List Nat→Prop} {rk:Nat→List Nat→Option Nat} (h:EngIs w z bb B S gr cr rs tv mv ka ks kc m vals Fs rk) (hf:MeanFine m) (he:CellsAt w eb #[.pointer (some ⟨bb,0,none⟩)]) {s:ByteArray} {i:Nat} (hs:placeB (m.rels.map Prod.fst) s=some i) {nm:ByteArray} {cols:List Nat} (hc:m.rels[i]?=some (nm,cols)) :
  Calls Tryz.prog 18 #[.pointer (some ⟨eb,0,none⟩),.string s] w (TupTo cols.length ((alls cols.length).filter (fun l=>(rk i l).isSome)) w):=by
 obtain ⟨r,hr⟩:∃ r,rs[i]?=some r:=⟨_,List.getElem?_eq_getElem (by rw [h.len];exact (List.getElem?_eq_some_iff.1 hc).1)⟩
 have hn:=(h.rels i r nm cols hr hc).1
 have h1:=hf.cols _ (List.mem_of_getElem? hc)
 have:=callsIn_wide.1 (tuples_in h he hs hr (by rw [hn];exact h1))
 rw [tupsOf_rep (h.all i r hr).tu (fun l=>(rk i l).isSome) (fun l=>Iff.rfl),hn] at this
 exact this
end
section
inductive Way (E:Nat→Nat→Prop) (k:Nat):Nat→Nat→Nat→Prop
 | one {x y:Nat}:E x y→Way E k 1 x y
 | cons {n x z y:Nat}:E x z→z<k→Way E k n z y→Way E k (n+1) x y
theorem Way.pos {E:Nat→Nat→Prop} {k n x y:Nat} (h:Way E k n x y):0<n:=by
 cases h <;> omega
theorem Way.trans {E:Nat→Nat→Prop} {k n m x z y:Nat} (h:Way E k n x z) (hz:z<k) (h2:Way E k m z y):Way E k (n+m) x y:=by
 induction h with
 | one h=>rw [Nat.add_comm];exact .cons h hz h2
 | cons h1 h3 _ ih=>rw [Nat.add_right_comm];exact .cons h1 h3 (ih hz h2)
theorem Way.last {E:Nat→Nat→Prop} {k n x y:Nat} (h:Way E k (n+1) x y) (hn:0<n):∃ z,z<k∧Way E k n x z∧E z y:=by
 induction n generalizing x with
 | zero=>omega
 | succ n ih=>
  cases h with
  | @cons m _ z _ h1 h2 h3=>
   cases n with
   | zero=>
    cases h3 with
    | one h4=>exact ⟨z,h2,.one h1,h4⟩
    | cons _ _ h5=>exact absurd h5.pos (by omega)
   | succ n=>
    obtain ⟨u,hu,h4,h5⟩:=ih h3 (by omega)
    exact ⟨u,hu,.cons h1 h2 h4,h5⟩
theorem Way.one_iff {E:Nat→Nat→Prop} {k x y:Nat}:Way E k 1 x y↔E x y:=by
 constructor
 ·intro h
  cases h with
  | one h=>exact h
  | cons _ _ h=>exact absurd h.pos (by omega)
 ·exact .one
end
section
def derives (cs:List ClauseM) (rk:Nat→List Nat→Option Nat) (i:Nat) (l:List Nat):Prop:=∃ c∈cs,c.head.rel=i∧brings c.head.terms (fun ν=>∀ a∈c.lits,litH rk a ν) l
def NegOk (cs:List ClauseM):Prop:=∀ c∈cs,∀ a∈c.lits,a.2=true→∀ d∈cs,d.head.rel≠a.1.rel
def RelOk (cs:List ClauseM) (n:Nat):Prop:=∀ c∈cs,c.head.rel<n∧∀ a∈c.lits,a.1.rel<n
open Classical in
noncomputable def nv (cs:List ClauseM) (n:Nat) (rk0:Nat→List Nat→Option Nat):Nat→Nat→List Nat→Option Nat
 | 0=>rk0
 | t+1=>fun i l=>if i<n∧nv cs n rk0 t i l=none∧derives cs (nv cs n rk0 t) i l then some (t+1) else nv cs n rk0 t i l
section
variable {cs:List ClauseM} {n:Nat} {rk0:Nat→List Nat→Option Nat}
theorem nv_old {t i:Nat} {l:List Nat} (h:nv cs n rk0 t i l≠none):nv cs n rk0 (t+1) i l=nv cs n rk0 t i l:=by
 simp only [nv];rw [if_neg (fun q=>h q.2.1)]
theorem nv_new {t i:Nat} {l:List Nat} (hi:i<n) (h:nv cs n rk0 t i l=none) (hd:derives cs (nv cs n rk0 t) i l):nv cs n rk0 (t+1) i l=some (t+1):=by
 simp only [nv];rw [if_pos ⟨hi,h,hd⟩]
theorem nv_no {t i:Nat} {l:List Nat} (hd:¬ derives cs (nv cs n rk0 t) i l):nv cs n rk0 (t+1) i l=nv cs n rk0 t i l:=by
 simp only [nv];rw [if_neg (fun q=>hd q.2.2)]
theorem nv_some {t i:Nat} {l:List Nat} (hi:i<n):(nv cs n rk0 (t+1) i l).isSome=true↔(nv cs n rk0 t i l).isSome=true∨(derives cs (nv cs n rk0 t) i l∧nv cs n rk0 t i l=none):=by
 by_cases h:nv cs n rk0 t i l=none
 ·by_cases hd:derives cs (nv cs n rk0 t) i l
  ·rw [nv_new hi h hd];simp [h,hd]
  ·rw [nv_no hd];simp [h,hd]
 ·rw [nv_old h];simp [h]
theorem derives_none {i:Nat} (h:∀ d∈cs,d.head.rel≠i) (rk:Nat→List Nat→Option Nat) (l:List Nat):¬ derives cs rk i l:=fun ⟨d,hd,e,_⟩=>h d hd e
theorem litH_step (hneg:NegOk cs) (hrel:RelOk cs n) {c:ClauseM} (hc:c∈cs) {a:AtomM×Bool} (ha:a∈c.lits) (t:Nat) (ν:List Nat):litH (nv cs n rk0 (t+1)) a ν↔litH (nv cs n rk0 t) a ν∨(derives cs (nv cs n rk0 t) a.1.rel (a.1.terms.map (tvR ν))∧nv cs n rk0 t a.1.rel (a.1.terms.map (tvR ν))=none):=by
 unfold litH
 cases h2:a.2 with
 | true=>
  have hd:=derives_none (hneg c hc a ha h2) (nv cs n rk0 t) (a.1.terms.map (tvR ν))
  simp only [if_true]
  rw [nv_no hd]
  simp [hd]
 | false=>
  rw [if_neg (by simp),if_neg (by simp)]
  exact nv_some ((hrel c hc).2 a ha)
theorem rnd_nv (hneg:NegOk cs) (hrel:RelOk cs n):∀ t,(rnd cs n rk0 (litsC cs rk0) t).rk=nv cs n rk0 t∧(∀ (p:Nat) (c:ClauseM),cs[p]?=some c→((rnd cs n rk0 (litsC cs rk0) t).hs p).length=c.lits.length∧∀ (k:Nat) (a:AtomM×Bool),c.lits[k]?=some a→∃ H,((rnd cs n rk0 (litsC cs rk0) t).hs p)[k]?=some H∧∀ ν,H ν↔litH (nv cs n rk0 t) a ν)∧∀ (i:Nat) (l:List Nat),i<n→((rnd cs n rk0 (litsC cs rk0) t).x i l↔derives cs (nv cs n rk0 t) i l∧nv cs n rk0 t i l=none)
 | 0=>by
  have hh:∀ (p:Nat) (c:ClauseM),cs[p]?=some c→litsC cs rk0 p=c.lits.map (litH rk0):=fun p c hc=>by unfold litsC;rw [hc]
  refine ⟨rfl,fun p c hc=>⟨?_,fun k a ha=>⟨litH rk0 a,?_,fun ν=>Iff.rfl⟩⟩,fun i l hi=>?_⟩
  ·show (litsC cs rk0 p).length=_
   rw [hh p c hc];simp
  ·show (litsC cs rk0 p)[k]?=_
   rw [hh p c hc,List.getElem?_map,ha];rfl
  ·show outX (beginC cs (litsC cs rk0)) rk0 n i l↔derives cs rk0 i l∧rk0 i l=none
   unfold outX
   have e1:beginC cs (litsC cs rk0) i l↔derives cs rk0 i l:=by
    constructor
    ·rintro ⟨p,c,hc,hr,ν,h1,h2,h3⟩
     refine ⟨c,List.mem_of_getElem? hc,hr,ν,h1,fun a ha=>?_,h3⟩
     obtain ⟨k,hk,rfl⟩:=List.getElem_of_mem ha
     exact h2 k _ hk (by rw [hh p c hc,List.getElem?_map,List.getElem?_eq_getElem hk];rfl)
    ·rintro ⟨c,hc,hr,ν,h1,h2,h3⟩
     obtain ⟨p,hp,rfl⟩:=List.getElem_of_mem hc
     have hc':=List.getElem?_eq_getElem hp
     refine ⟨p,_,hc',hr,ν,h1,fun k H hk hH=>?_,h3⟩
     rw [hh p _ hc',List.getElem?_map] at hH
     obtain ⟨a,ha,rfl⟩:=Option.map_eq_some_iff.1 hH
     exact h2 a (List.mem_of_getElem? ha)
   rw [e1]
   constructor
   ·exact fun q=>⟨q.1,by have:=q.2 hi;cases h:rk0 i l <;> simp_all⟩
   ·exact fun q=>⟨q.1,fun _=>by rw [q.2];simp⟩
 | t+1=>by
  obtain ⟨h1,h2,h3⟩:=rnd_nv hneg hrel t
  have er:(rnd cs n rk0 (litsC cs rk0) (t+1)).rk=nv cs n rk0 (t+1):=by
   show freshRk (rnd cs n rk0 (litsC cs rk0) t).rk (rnd cs n rk0 (litsC cs rk0) t).x (t+1) n=_
   funext i l
   unfold freshRk
   by_cases hi:i<n
   ·rw [if_pos hi]
    unfold addRk
    by_cases hx:(rnd cs n rk0 (litsC cs rk0) t).x i l
    ·rw [if_pos hx]
     have:=(h3 i l hi).1 hx
     rw [nv_new hi this.2 this.1]
    ·rw [if_neg hx,h1]
     by_cases hn:nv cs n rk0 t i l=none
     ·rw [nv_no (fun hd=>hx ((h3 i l hi).2 ⟨hd,hn⟩))]
     ·rw [nv_old hn]
   ·rw [if_neg hi,h1]
    simp only [nv]
    rw [if_neg (fun q=>hi q.1)]
  have eh:∀ (p:Nat) (c:ClauseM),cs[p]?=some c→(rnd cs n rk0 (litsC cs rk0) (t+1)).hs p=orTo ((rnd cs n rk0 (litsC cs rk0) t).hs p) (c.lits.map (cameH (rnd cs n rk0 (litsC cs rk0) t).x)) c.lits.length:=fun p c hc=>by
   show hsC cs _ _ p=_
   unfold hsC;rw [hc]
  have hH:∀ (p:Nat) (c:ClauseM),cs[p]?=some c→∀ (k:Nat) (a:AtomM×Bool),c.lits[k]?=some a→∃ H,(orTo ((rnd cs n rk0 (litsC cs rk0) t).hs p) (c.lits.map (cameH (rnd cs n rk0 (litsC cs rk0) t).x)) c.lits.length)[k]?=some H∧∀ ν,H ν↔litH (nv cs n rk0 (t+1)) a ν:=fun p c hc k a ha=>by
   obtain ⟨hl,hk⟩:=h2 p c hc
   obtain ⟨H,e1,e2⟩:=hk k a ha
   have hkl:=(List.getElem?_eq_some_iff.1 ha).1
   have hm:=List.mem_of_getElem? hc
   have ham:=List.mem_of_getElem? ha
   refine ⟨orF ((rnd cs n rk0 (litsC cs rk0) t).hs p) (c.lits.map (cameH (rnd cs n rk0 (litsC cs rk0) t).x)) c.lits.length k,?_,fun ν=>?_⟩
   ·unfold orTo
    rw [List.getElem?_map,List.getElem?_range (by rw [hl];exact hkl)];rfl
   ·rw [litH_step hneg hrel hm ham,←h3 _ _ ((hrel c hm).2 a ham)]
    unfold orF
    constructor
    ·rintro (⟨G,g1,g2⟩ | ⟨_,C,g1,g2⟩)
     ·rw [e1] at g1;cases g1;exact .inl ((e2 ν).1 g2)
     ·rw [List.getElem?_map,ha] at g1
      cases g1
      exact .inr g2
    ·rintro (g | g)
     ·exact .inl ⟨H,e1,(e2 ν).2 g⟩
     ·exact .inr ⟨hkl,_,by rw [List.getElem?_map,ha];rfl,g⟩
  have hall:∀ (p:Nat) (c:ClauseM),cs[p]?=some c→∀ ν,allH (orTo ((rnd cs n rk0 (litsC cs rk0) t).hs p) (c.lits.map (cameH (rnd cs n rk0 (litsC cs rk0) t).x)) c.lits.length) c.lits.length ν↔∀ a∈c.lits,litH (nv cs n rk0 (t+1)) a ν:=fun p c hc ν=>by
   constructor
   ·intro q a ha
    obtain ⟨k,hk,rfl⟩:=List.getElem_of_mem ha
    obtain ⟨H,e1,e2⟩:=hH p c hc k _ (List.getElem?_eq_getElem hk)
    exact (e2 ν).1 (q k H hk e1)
   ·intro q k H hk hHk
    obtain ⟨H',e1,e2⟩:=hH p c hc k _ (List.getElem?_eq_getElem hk)
    rw [e1] at hHk
    cases hHk
    exact (e2 ν).2 (q _ (List.getElem_mem hk))
  refine ⟨er,fun p c hc=>⟨?_,fun k a ha=>?_⟩,fun i l hi=>?_⟩
  ·rw [eh p c hc];unfold orTo;simp [(h2 p c hc).1]
  ·rw [eh p c hc];exact hH p c hc k a ha
  ·show outX (thenC cs (rnd cs n rk0 (litsC cs rk0) t).hs (rnd cs n rk0 (litsC cs rk0) t).x) (rnd cs n rk0 (litsC cs rk0) (t+1)).rk n i l↔_
   rw [er]
   unfold outX
   constructor
   ·rintro ⟨⟨p,c,k,a,hc,hr,_,ν,g1,g2,g3⟩,hn⟩
    refine ⟨⟨c,List.mem_of_getElem? hc,hr,ν,g1,(hall p c hc ν).1 g2.2,g3⟩,?_⟩
    have:=hn hi
    cases h:nv cs n rk0 (t+1) i l <;> simp_all
   ·rintro ⟨⟨c,hc,hr,ν,g1,g2,g3⟩,hn⟩
    refine ⟨?_,fun _=>by rw [hn];simp⟩
    obtain ⟨p,hp,rfl⟩:=List.getElem_of_mem hc
    have hc':=List.getElem?_eq_getElem hp
    by_cases hx:∃ (k:Nat) (a:AtomM×Bool),(cs[p]).lits[k]?=some a∧cameH (rnd cs n rk0 (litsC cs rk0) t).x a ν
    ·obtain ⟨k,a,ha,hx⟩:=hx
     exact ⟨p,_,k,a,hc',hr,ha,ν,g1,⟨hx,(hall p _ hc' ν).2 g2⟩,g3⟩
    ·exfalso
     have hd:derives cs (nv cs n rk0 t) i l:=⟨_,hc,hr,ν,g1,fun a ha=>by
      rcases (litH_step hneg hrel hc ha t ν).1 (g2 a ha) with q | q
      ·exact q
      ·obtain ⟨k,hk,e⟩:=List.getElem_of_mem ha
       exact absurd ⟨k,a,by rw [List.getElem?_eq_getElem hk,e],(h3 _ _ ((hrel _ hc).2 a ha)).2 q⟩ hx,g3⟩
     by_cases h0:nv cs n rk0 t i l=none
     ·rw [nv_new hi h0 hd] at hn;cases hn
     ·rw [nv_old h0] at hn;exact h0 hn
theorem nv_still {T:Nat} (h:∀ i l,i<n→¬ (derives cs (nv cs n rk0 T) i l∧nv cs n rk0 T i l=none)):∀ t,nv cs n rk0 (T+t)=nv cs n rk0 T
 | 0=>rfl
 | t+1=>by
  have ih:=nv_still h t
  funext i l
  show nv cs n rk0 ((T+t)+1) i l=_
  simp only [nv]
  rw [ih,if_neg (fun q=>h i l q.1 ⟨q.2.2,q.2.1⟩)]
end
end
section
def vT (k:Nat):TermM:=⟨true,(k:Int)⟩
def way1 (e p l:Nat):ClauseM:=⟨⟨p,[vT 0,vT 1]⟩,[(⟨e,[vT 0,vT 1]⟩,false)],l⟩
def way2 (e p l:Nat):ClauseM:=⟨⟨p,[vT 0,vT 1]⟩,[(⟨p,[vT 0,vT 2]⟩,false),(⟨e,[vT 2,vT 1]⟩,false)],l⟩
theorem least {P:Nat→Prop}:∀ {n:Nat},P n→∃ m,m≤n∧P m∧∀ k,k<m→¬ P k:=by
 intro n
 induction n using Nat.strongRecOn with
 | ind n ih=>
  intro h
  by_cases hk:∃ k,k<n∧P k
  ·obtain ⟨k,h1,h2⟩:=hk
   obtain ⟨m,a,b,c⟩:=ih k h1 h2
   exact ⟨m,by omega,b,c⟩
  ·exact ⟨n,Nat.le_refl _,h,fun k h1 h2=>hk ⟨k,h1,h2⟩⟩
theorem alls4 {a b c d:Nat} (ha:a<8) (hb:b<8) (hc:c<8) (hd:d<8):[a,b,c,d]∈alls 4:=by
 simp only [alls,List.mem_flatMap,List.mem_range,List.mem_map,List.mem_singleton]
 exact ⟨a,ha,_,⟨b,hb,_,⟨c,hc,_,⟨d,hd,_,rfl,rfl⟩,rfl⟩,rfl⟩,rfl⟩
theorem of_alls4 {ν:List Nat} (h:ν∈alls 4):∃ a b c d,ν=[a,b,c,d]∧a<8∧b<8∧c<8∧d<8:=by
 simp only [alls,List.mem_flatMap,List.mem_range,List.mem_map,List.mem_singleton] at h
 obtain ⟨a,ha,_,⟨b,hb,_,⟨c,hc,_,⟨d,hd,_,rfl,rfl⟩,rfl⟩,rfl⟩,rfl⟩:=h
 exact ⟨a,b,c,d,rfl,ha,hb,hc,hd⟩
section
variable {e p l1 l2 n:Nat} {rk:Nat→List Nat→Option Nat}
theorem derives_ways {x y:Nat} (hx:x<8) (hy:y<8):derives [way1 e p l1,way2 e p l2] rk p [x,y]↔(rk e [x,y]).isSome=true∨∃ z,z<8∧(rk p [x,z]).isSome=true∧(rk e [z,y]).isSome=true:=by
 constructor
 ·rintro ⟨c,hc,_,ν,hν,hl,ht⟩
  obtain ⟨a,b,u,d,rfl,_,_,hu,_⟩:=of_alls4 hν
  simp only [List.mem_cons,List.not_mem_nil,or_false] at hc
  rcases hc with rfl | rfl
  ·have h1:=hl (⟨e,[vT 0,vT 1]⟩,false) (by simp [way1])
   simp [way1,vT,tvR] at ht
   obtain ⟨rfl,rfl⟩:=ht
   simp [litH,vT,tvR] at h1
   exact .inl h1
  ·have h1:=hl (⟨p,[vT 0,vT 2]⟩,false) (by simp [way2])
   have h2:=hl (⟨e,[vT 2,vT 1]⟩,false) (by simp [way2])
   simp [way2,vT,tvR] at ht
   obtain ⟨rfl,rfl⟩:=ht
   simp [litH,vT,tvR] at h1 h2
   exact .inr ⟨u,hu,h1,h2⟩
 ·rintro (h | ⟨z,hz,h1,h2⟩)
  ·refine ⟨way1 e p l1,by simp,rfl,[x,y,0,0],alls4 hx hy (by omega) (by omega),fun a ha=>?_,by simp [way1,vT,tvR]⟩
   simp only [way1,List.mem_cons,List.not_mem_nil,or_false] at ha
   subst ha
   simpa [litH,vT,tvR] using h
  ·refine ⟨way2 e p l2,by simp,rfl,[x,y,z,0],alls4 hx hy hz (by omega),fun a ha=>?_,by simp [way2,vT,tvR]⟩
   simp only [way2,List.mem_cons,List.not_mem_nil,or_false] at ha
   rcases ha with rfl | rfl
   ·simpa [litH,vT,tvR] using h1
   ·simpa [litH,vT,tvR] using h2
theorem ways_e (he:e≠p):∀ (t:Nat) (l:List Nat),nv [way1 e p l1,way2 e p l2] n rk t e l=rk e l
 | 0,_=>rfl
 | t+1,l=>by
  rw [nv_no (derives_none (fun d hd=>?_) _ _),ways_e he t l]
  simp only [List.mem_cons,List.not_mem_nil,or_false] at hd
  rcases hd with rfl | rfl <;> exact fun q=>he q.symm
theorem ways_nv (he:e≠p) (hp:p<n) {E:Nat→Nat→Prop} (hE:∀ x y,x<8→y<8→((rk e [x,y]).isSome=true↔E x y)) (h8:∀ x y,E x y→x<8∧y<8) (h0:∀ l,rk p l=none):∀ (t:Nat) {x y:Nat} (_:x<8) (_:y<8) (r:Nat),nv [way1 e p l1,way2 e p l2] n rk t p [x,y]=some r↔r≤t∧Way E 8 r x y∧∀ m,m<r→¬ Way E 8 m x y
 | 0,x,y,_,_,r=>by
  show rk p [x,y]=some r↔_
  rw [h0]
  constructor
  ·exact fun q=>nomatch q
  ·rintro ⟨h1,h2,_⟩;have:=h2.pos;omega
 | t+1,x,y,hx,hy,r=>by
  have ih:=fun {x y:Nat} (hx:x<8) (hy:y<8) (r:Nat)=>ways_nv he hp hE h8 h0 t hx hy r
  have hA:∀ {x y:Nat},x<8→y<8→((nv [way1 e p l1,way2 e p l2] n rk t p [x,y]).isSome=true↔∃ q,q≤t∧Way E 8 q x y):=fun {x y} hx hy=>by
   constructor
   ·intro h
    obtain ⟨q,hq⟩:=Option.isSome_iff_exists.1 h
    exact ⟨q,((ih hx hy q).1 hq).1,((ih hx hy q).1 hq).2.1⟩
   ·rintro ⟨q,h1,h2⟩
    obtain ⟨m,a,b,c⟩:=least (P:=fun q=>Way E 8 q x y) h2
    rw [(ih hx hy m).2 ⟨by omega,b,c⟩];rfl
  have hD:derives [way1 e p l1,way2 e p l2] (nv [way1 e p l1,way2 e p l2] n rk t) p [x,y]↔∃ q,q≤t+1∧Way E 8 q x y:=by
   rw [derives_ways hx hy,ways_e he,hE x y hx hy]
   constructor
   ·rintro (h | ⟨z,hz,h1,h2⟩)
    ·exact ⟨1,by omega,.one h⟩
    ·obtain ⟨q,a,b⟩:=(hA hx hz).1 h1
     rw [ways_e he,hE z y hz hy] at h2
     exact ⟨q+1,by omega,b.trans hz (.one h2)⟩
   ·rintro ⟨q,h1,h2⟩
    cases q with
    | zero=>exact absurd h2.pos (by omega)
    | succ q=>
     by_cases hq:0<q
     ·obtain ⟨z,hz,a,b⟩:=h2.last hq
      exact .inr ⟨z,hz,(hA hx hz).2 ⟨q,by omega,a⟩,by rw [ways_e he,hE z y hz hy];exact b⟩
     ·have:q=0:=by omega
      subst this
      exact .inl (Way.one_iff.1 h2)
  cases hn:nv [way1 e p l1,way2 e p l2] n rk t p [x,y] with
  | some q=>
   rw [nv_old (by rw [hn];simp),hn]
   obtain ⟨a,b,c⟩:=(ih hx hy q).1 hn
   constructor
   ·intro e;cases e;exact ⟨by omega,b,c⟩
   ·rintro ⟨_,b2,c2⟩
    congr 1
    rcases Nat.lt_trichotomy q r with h | h | h
    ·exact absurd b (c2 q h)
    ·exact h
    ·exact absurd b2 (c r h)
  | none=>
   have hno:∀ q,q≤t→¬ Way E 8 q x y:=fun q h1 h2=>by
    have:=(hA hx hy).2 ⟨q,h1,h2⟩
    rw [hn] at this
    cases this
   by_cases hd:derives [way1 e p l1,way2 e p l2] (nv [way1 e p l1,way2 e p l2] n rk t) p [x,y]
   ·rw [nv_new hp hn hd]
    obtain ⟨q,h1,h2⟩:=hD.1 hd
    have hq:q=t+1:=by
     by_cases hq:q≤t
     ·exact absurd h2 (hno q hq)
     ·omega
    subst hq
    constructor
    ·intro e;cases e;exact ⟨Nat.le_refl _,h2,fun m hm=>hno m (by omega)⟩
    ·rintro ⟨a,b,c⟩
     congr 1
     by_cases hr:r≤t
     ·exact absurd b (hno r hr)
     ·omega
   ·rw [nv_no hd,hn]
    constructor
    ·exact fun q=>nomatch q
    ·rintro ⟨a,b,_⟩;exact absurd (hD.2 ⟨r,a,b⟩) hd
end
end
end Go.Proofs.YtgjomknpjigkhaaGreatDoor
