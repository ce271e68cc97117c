import Derived.Test.YtgjomknpjigkhaaGreatDoorS49
namespace Go.Proofs.YtgjomknpjigkhaaGreatDoor
set_option maxRecDepth 100000
set_option maxHeartbeats 4000000
section
open Go.RowKit
theorem clone_nil (w:World):Calls Tryz.prog 220 #[.slice none 0 0] w fun e w'=>e=.returned (.slice none 0 0)∧w' = w:=by
 have heq:=fun (w:World)=>Lib.run_eql_slice_nil (P:=Tryz.prog) w 40 3 none 0 0 0 0 Tryz.underlying40
 go_enter Tryz.func220,Tryz.ntmps220
 go_wp2
 go_ret
 exact ⟨rfl,rfl⟩
theorem sweepB0_calls {w:World} {bb:Nat} {B:SB} {S:ST} {x0 x1 x3:Value} (h:CellsAt w bb #[x0,x1,.slice none 0 0,x3,.pointer (some ⟨B.b,0,none⟩)]) (hS:StoreAt w B S) (hN:S.N=[]) :
  Calls Tryz.prog 151 #[.pointer (some ⟨bb,0,none⟩),.slice none 0 0,.slice none 0 0] w fun e w'=>e=.returned (.tuple #[])∧Keeps B.own w w':=by
 have hcl:=hide (clone_nil w)
 have hsw:=hide (sweep0_calls hS hN)
 have g2:=h.cell 2
 have g4:=h.cell 4
 simp at g2 g4
 go_enter Tryz.func151,Tryz.ntmps151
 go_wp2_with fail
 refine hcl.out.mono ?_
 rintro e W1 ⟨rfl,e1⟩
 subst e1
 go_wp2_with fail
 go_loopw [6,18] (fun x y wr=>x=.slice none 0 0∧y=.int .i64 0∧W1=wr) (fun _ _ _=>0)
 case atStart=>exact ⟨rfl,rfl,rfl⟩
 case round=>
  obtain ⟨rfl,rfl,rfl⟩:=hrel
  go_wp2_with fail
  go_loopw [6,32] (fun x y wr=>x=.slice none 0 0∧y=.int .i64 0∧W1=wr) (fun _ _ _=>0)
  case atStart=>exact ⟨rfl,rfl,rfl⟩
  case round=>
   obtain ⟨rfl,rfl,rfl⟩:=hrel
   go_wp2_with fail
   refine hsw.out.mono ?_
   rintro e W2 ⟨rfl,k2⟩
   go_wp2_with fail
   go_end0
   exact ⟨rfl,k2⟩
theorem work0_calls {w:World} {bb:Nat} {B:SB} {S:ST} {x0 x1 x3:Value} (h:CellsAt w bb #[x0,x1,.slice none 0 0,x3,.pointer (some ⟨B.b,0,none⟩)]) (hS:StoreAt w B S) (hN:S.N=[]) :
  Calls Tryz.prog 75 #[.pointer (some ⟨bb,0,none⟩),.int .i64 0] w fun e w'=>e=.returned (.tuple #[])∧Keeps B.own w w':=by
 have hsw:=hide (sweepB0_calls h hS hN)
 have g2:=h.cell 2
 simp at g2
 go_enter Tryz.func75,Tryz.ntmps75
 go_wp2_with fail
 go_loopw [1] (fun y wr=>y=.int .i64 0∧w=wr) (fun _ _=>0)
 case atStart=>exact ⟨rfl,rfl⟩
 case round=>
  obtain ⟨rfl,rfl⟩:=hrel
  go_wp2_with fail
  refine hsw.out.mono ?_
  rintro e W2 ⟨rfl,k2⟩
  go_wp2_with fail
  go_end0
  exact ⟨rfl,k2⟩
def Wk0To (w:World) (e:Ending) (w':World):Prop:=∃ (bb:Nat) (pv:Value),e=.returned (.pointer (some ⟨bb,0,none⟩))∧CellsAt w' bb #[.slice none 0 0,.map none,.slice none 0 0,.slice none 0 0,pv]∧w.heap.size≤bb∧Keeps [] w w'
theorem work37_none {w:World} {base p:Nat} {toks:List Tn} {m:Mean} {vals:List Nat} {rv cl tv:Value} {rvs kvs:List Value} (h:ProgAt w base p toks m vals rv cl tv rvs kvs) (hf:MeanFine m) (h0:m.rels.length=0):Calls Tryz.prog 37 #[.pointer (some ⟨p,0,none⟩)] w (Wk0To w):=by
 have hmk:=hide (fun (W:World)=>mk0_calls (w:=W) 12 (by omega) (by omega))
 have hc0:m.clauses.length=0:=by
  cases hc:m.clauses with
  | nil=>rfl
  | cons c cs=>
   have:=(hf.heads c (by rw [hc];simp)).rel
   omega
 obtain ⟨ar,cr0,hrv⟩:=ownE_len h.rels
 obtain ⟨ac,cc0,hcv⟩:=ownE_len h.cls
 rw [h0] at hrv
 rw [hc0] at hcv
 subst hrv hcv
 have hcells:=h.cells
 clear h0 hc0 h hf
 go_enter Tryz.func37,Tryz.ntmps37
 go_wp2_with fail
 refine (hmk.out _).mono ?_
 rintro e W1 ⟨B,rfl,hst,hown,hco,k1⟩
 have kb:=Keeps.alloc [] W1 (.cells #[.slice none 0 0,.map none,.slice none 0 0,.slice none 0 0,.pointer (some ⟨B.b,0,none⟩)] 142)
 have hb:=CellsAt.new W1 #[.slice none 0 0,.map none,.slice none 0 0,.slice none 0 0,.pointer (some ⟨B.b,0,none⟩)] 142
 have hSb:=hst.keeps kb (by simp)
 have hBlt:∀ i∈B.own,i<W1.heap.size:=hst.lt
 have kw:=k1.trans kb
 have hz1:=k1.size
 generalize hWb:W1.alloc (.cells #[.slice none 0 0,.map none,.slice none 0 0,.slice none 0 0,.pointer (some ⟨B.b,0,none⟩)] 142)=Wb at *
 have p0:=(hcells.keeps kw (by simp)).cell 0
 have p1:=(hcells.keeps kw (by simp)).cell 1
 simp at p0 p1
 have hwk:=hide (work0_calls hb hSb rfl)
 have Hkw:=hide kw
 clear kw kb hst hSb hco hcells
 go_wp2_with fail
 go_loopw [17] (fun y wr=>y=.int .i64 0∧Wb=wr) (fun _ _=>0)
 case atStart=>exact ⟨rfl,rfl⟩
 case round=>
  obtain ⟨rfl,e1⟩:=hrel
  subst e1
  go_wp2_with fail
  go_loopw [48] (fun y wr=>y=.int .i64 0∧Wb=wr) (fun _ _=>0)
  case atStart=>exact ⟨rfl,rfl⟩
  case round=>
   obtain ⟨rfl,e1⟩:=hrel
   subst e1
   go_wp2_with fail
   refine hwk.out.mono ?_
   rintro e W9 ⟨rfl,k9⟩
   go_wp2_with fail
   go_ret
   exact ⟨W1.heap.size,_,rfl,hb.keeps k9 (fun hm=>by have:=hBlt _ hm;omega),hz1,Hkw.out.trans_new k9 (fun i hi=>.inr (hown i hi))⟩
def Load0To (e:Ending) (w':World):Prop:=∃ (eb bb:Nat) (pv:Value),e=.returned (.tuple #[.pointer (some ⟨eb,0,none⟩),.agg #[.int .i64 0,.int .i64 0]])∧CellsAt w' eb #[.pointer (some ⟨bb,0,none⟩)]∧CellsAt w' bb #[.slice none 0 0,.map none,.slice none 0 0,.slice none 0 0,pv]
theorem load_none {w:World} (s:ByteArray) (hs:s.size≤9223372036854775807) {toks:List Tn} {m:Mean} (hR:readS s=.ok (toks,m)) (h0:m.rels.length=0):Calls Tryz.prog 16 #[.string s] w fun e w'=>Load0To e w'∧Keeps [] w w':=by
 have kA:=Keeps.alloc [] w (.cells #[.int .i64 0,.int .i64 0] 28)
 have hF:=CellsAt.new w #[.int .i64 0,.int .i64 0] 28
 have hrd:=hide (thread_calls (w:=w.alloc (.cells #[.int .i64 0,.int .i64 0] 28)) s hs)
 rw [sizeE_alloc] at hrd
 obtain ⟨fs,hfs⟩:=und28
 rw [hR] at hrd
 have hfine:=readS_fine hR
 clear hR
 go_enter Tryz.func16,Tryz.ntmps16
 go_wp2_with fail
 refine hrd.out.mono ?_
 rintro e w1 ⟨⟨p,vals,rv,cl,tv,rvs,kvs,rfl,hP⟩,k1⟩
 have hF1:=hF.keeps k1 (by simp)
 have hsz:=k1.size
 rw [sizeE_alloc] at hsz
 have kB:=Keeps.alloc [] w1 (.cells #[.int .i64 0,.int .i64 0] 28)
 have hG:=CellsAt.new w1 #[.int .i64 0,.int .i64 0] 28
 have hwk:=hide (fun (W:World) (k:Keeps [] w1 W)=>work37_none (hP.keeps k (by simp)) hfine h0)
 have hF2:=hide (hF1.keeps kB (by simp))
 have HG:=hide hG
 have HK:=hide ((kA.trans k1).trans kB)
 have HkB:=hide kB
 clear hrd k1 kA kB hF hF1 hG hP hfine h0
 go_wp2_with fail
 go_region_law (refine step_callA rfl 37 _ _ rfl _ Tryz.func37 (by kernel_rfl) (by kernel_rfl) [.pointer (some ⟨p,0,none⟩)] rfl ?_
                refine (hwk.out _ (HkB.out.trans (Keeps.drew _ _))).mono ?_
                rintro e w5 ⟨bb,pv,rfl,hE5,hlo,k5⟩
                have kE:=Keeps.alloc [] w5 (.cells #[.pointer (some ⟨bb,0,none⟩)] 89)
                have q0:=(HG.out.keeps (Keeps.drew [] _) (by simp)).keeps k5 (by simp)
                have q1:=(hF2.out.keeps (Keeps.drew [] _) (by simp)).keeps k5 (by simp)
                have q2:=q0.cell 0
                have q3:=q0.cell 1
                have r2:=(q0.keeps kE (by simp)).cell 0
                have r3:=(q0.keeps kE (by simp)).cell 1
                have hEb:=CellsAt.new w5 #[.pointer (some ⟨bb,0,none⟩)] 89
                obtain ⟨s0,s1,s2,s3,s4,s5⟩:=res2 (q1.keeps kE (by simp)) (.int .i64 0) (.int .i64 0))
 all_goals
  go_wp2_with fail
  have k15:=(HK.out.trans (Keeps.drew [] _)).trans k5
  have hz5:w1.heap.size+1≤w5.heap.size:=by have:=k5.size;rw [show ((w1.alloc (.cells #[.int .i64 0,.int .i64 0] 28)).drew).heap.size=(w1.alloc (.cells #[.int .i64 0,.int .i64 0] 28)).heap.size from rfl,sizeE_alloc] at this;exact this
  have hlo':w1.heap.size+1≤bb:=by rw [show ((w1.alloc (.cells #[.int .i64 0,.int .i64 0] 28)).drew).heap.size=(w1.alloc (.cells #[.int .i64 0,.int .i64 0] 28)).heap.size from rfl,sizeE_alloc] at hlo;exact hlo
  refine bodyPost_ret (ret_two (t:=2) (p:=3) (ty:=28) (by kernel_rfl) _ s4 hfs size28 rfl) rfl ⟨?_,(k15.trans kE).trans_new s5 (by simp)⟩
  exact ⟨w5.heap.size,bb,pv,rfl,hEb.keeps s5 (by simp;omega),(hE5.keeps kE (by simp)).keeps s5 (by simp;omega)⟩
end
section
open Go.RowKit Go.Shelf
attribute [local go_sem] Oper.semAt_some
theorem all0_calls {w:World} {B:Nat} {a:Option Addr} {n c:Nat} (hc:w.cell? ⟨B,0,none⟩=some (.slice a n c)):Calls Tryz.prog 76 #[.pointer (some ⟨B,0,none⟩)] w fun e w'=>e=.returned (.func (.func 222) #[] #[.pointer (some ⟨w.heap.size,0,none⟩)])∧w' = w.alloc (.cells #[.slice a n c] 35):=by
 go_enter Tryz.func76,Tryz.ntmps76
 go_wp2
 go_ret
 exact ⟨rfl,rfl⟩
theorem names38_calls {w:World} {B:Nat} {a:Option Addr} {n c:Nat} (hc:w.cell? ⟨B,0,none⟩=some (.slice a n c)):Calls Tryz.prog 38 #[.pointer (some ⟨B,0,none⟩)] w fun e w'=>e=.returned (.func (.func 222) #[] #[.pointer (some ⟨w.heap.size,0,none⟩)])∧w' = w.alloc (.cells #[.slice a n c] 35):=by
 have h:=hide (all0_calls hc)
 go_enter Tryz.func38,Tryz.ntmps38
 go_wp2_with fail
 refine h.out.mono ?_
 rintro e w1 ⟨rfl,rfl⟩
 go_wp2_with fail
 go_ret
 exact ⟨rfl,rfl⟩
def NmI (W0:World) (b g:Nat) (ns:List ByteArray) (pre:List (Nat×ByteArray)) (W:World):Prop:=∃ v,W.heap[g]?=some (.cells #[v] 35 (0,0))∧W.ownsRow b 9 1 v pre.length ((ns.take pre.length).map eS)∧W0.heap.size≤W.heap.size∧∀ j,j<W0.heap.size→j≠g→W.heap[j]?=W0.heap[j]?
def RlsTo (w:World) (ns:List ByteArray) (e:Ending) (w':World):Prop:=∃ v,e=.returned v∧w'.ownsRow w.heap.size 9 1 v ns.length (ns.map eS)∧Keeps [] w w'
theorem rels17_in {w:World} {eb bb base:Nat} {a:Option Addr} {c:Nat} {ns:List ByteArray} (he:CellsAt w eb #[.pointer (some ⟨bb,0,none⟩)]) (hc:w.cell? ⟨bb,0,none⟩=some (.slice a ns.length c)) (hrow:w.ownsRow base 9 1 (.slice a ns.length c) ns.length (ns.map eS)) (hl:ns.length≤6) :
  CallsIn Fence.wide 0 Tryz.prog 17 #[.pointer (some ⟨eb,0,none⟩)] w (RlsTo w ns):=by
 obtain ⟨i0,hi0,hz0,hz1,hz2⟩:=info_parts info9
 have kL:=Keeps.alloc [] w (.cells #[.slice none 0 0] 35)
 have zL:=sizeE_alloc w (.cells #[.slice none 0 0] 35)
 have hL:(w.alloc (.cells #[.slice none 0 0] 35)).heap[w.heap.size]?=some (.cells #[.slice none 0 0] 35 (0,0)):=World.alloc_heap_new w _
 have e1:=(he.keeps kL (by simp)).cell 0
 simp at e1
 have hcL:(w.alloc (.cells #[.slice none 0 0] 35)).cell? ⟨bb,0,none⟩=some (.slice a ns.length c):=by
  rw [←hc]
  have hb:=World.block_lt_of_cell? w _ hc
  simp [World.cell?,kL.block _ hb (by simp)]
 have hnm:=hide (names38_calls hcL)
 rw [zL] at hnm
 clear hcL
 generalize hWL:w.alloc (.cells #[.slice none 0 0] 35)=WL at *
 refine callsIn_of_wp_marks Tryz.func17 rfl trivial ?_ rfl
 simp only [Tryz.ntmps17,List.size_toArray,List.length_cons,List.length_nil,Nat.reduceAdd,Nat.reduceSub,Array.replicate_succ,Array.replicate_zero,List.push_toArray,List.append_toArray,List.nil_append,List.cons_append]
 refine wpIn_wide.2 ?_
 go_wp2_with fail
 refine hnm.out.mono ?_
 rintro e w2 ⟨rfl,rfl⟩
 go_wp2_with fail
 have kA:=Keeps.alloc [] WL (.cells #[.slice a ns.length c] 35)
 have hA:=CellsAt.new WL #[.slice a ns.length c] 35
 have z2:(WL.alloc (.cells #[.slice a ns.length c] 35)).heap.size=w.heap.size+1+1:=by rw [sizeE_alloc,zL]
 rw [zL] at hA
 have hL2:(WL.alloc (.cells #[.slice a ns.length c] 35)).heap[w.heap.size]?=some (.cells #[.slice none 0 0] 35 (0,0)):=(kA.block _ (by omega) (by simp)).trans hL
 have kW2:Keeps [] w (WL.alloc (.cells #[.slice a ns.length c] 35)):=kL.trans kA
 have hrow2:=ownsRow_kept hrow kW2 (by simp)
 generalize WL.alloc (.cells #[.slice a ns.length c] 35)=W2 at *
 have hit:=all_iter (w:=W2) (p:=w.heap.size+1) (g:=(a.map (·.block)).getD 0) (c:=c) (ns:=ns) (a:=a) hA (fun s hs=>by
   have hpos:0<ns.length:=List.length_pos_of_mem hs
   obtain ⟨g,hg⟩:=ownE_pos2 hrow hpos
   subst hg
   exact ⟨rfl,Nat.lt_of_lt_of_le (ownE_lt hrow g rfl).2 kW2.size⟩) (fun {W} hW i s hs=>by
   have hpos:0<ns.length:=by have:=(List.getElem?_eq_some_iff.1 hs).1;omega
   obtain ⟨g,hg⟩:=ownE_pos2 hrow hpos
   subst hg
   have hcc0:=ownE_cells hrow2 (j:=i) (v:=.string s) (by simp [eS,hs])
   have hb:W.heap[g]?=W2.heap[g]?:=hW g rfl
   obtain ⟨_,⟨h1,_⟩ | ⟨g',cap,cur,hv,hb',hg,hn,hc',hs',htk⟩⟩:=hrow2
   ·cases h1
   ·cases hv
    have hcc:CellsAt W g cur:=⟨_,by rw [hb];exact hg⟩
    have hcc':CellsAt W2 g cur:=⟨_,hg⟩
    rw [hcc'.cell] at hcc0
    show W.cell? ⟨g,i,none⟩=_
    rw [hcc.cell]
    exact hcc0) (by omega) [w.heap.size] (fun t ht=>by
   have e:t=w.heap.size:=(by simpa using ht)
   refine ⟨by omega,by omega,fun hne=>?_⟩
   have hpos:0<ns.length:=List.length_pos_iff.2 hne
   obtain ⟨g,hg⟩:=ownE_pos2 hrow hpos
   subst hg
   have:=(ownE_lt hrow g rfl).2
   show t≠g
   omega)
 refine (wpIn_wide (n:=0)).1 ?_
 refine range_lawG (gf:=222) (lb:=#[.pointer (some ⟨w.heap.size+1,0,none⟩)]) rfl (enters_of Tryz.func222 (by kernel_rfl) rfl) (T:=[w.heap.size]) (by simp;omega) hit (fun _=>rfl)
  (NmI W2 W2.heap.size w.heap.size ns)
  (fun pre W1 W3 hI hs=>by
   obtain ⟨v,a1,a2,a4,a5⟩:=hI
   exact ⟨v,(hs.block _ (Array.getElem?_eq_some_iff.1 a1).1 (.inr ⟨_,_,_,a1⟩)).trans a1,still_row a2 hs,Nat.le_trans a4 hs.size,fun j hj hne=>(hs.block j (by omega) (.inl hj)).trans (a5 j hj hne)⟩) ⟨_,hL2,World.ownsRow_nil ..,Nat.le_refl _,fun _ _ _=>rfl⟩
  (fun x a' _=>a' = { tmps:=#[.pointer (some ⟨eb,0,none⟩),undef,.slice none 0 0,.pointer (some ⟨w.heap.size,0,none⟩),undef,.string x.2,.pointer (some ⟨eb,0,none⟩),.pointer (some ⟨eb,0,none⟩),.pointer (some ⟨eb,0,none⟩),.pointer (some ⟨bb,0,none⟩),.func (.func 222) #[] #[.pointer (some ⟨w.heap.size+1,0,none⟩)],.int .i64 (x.1:Int),.string x.2,undef,undef,undef,undef,undef],defers:=[] })
  (fun _ _ _ _ h _=>h) ?assign ?body ?done
 case assign=>
  intro l1 pre x W' K hlt hI hc hK
  simp only [eP,List.zip_toArray,List.zip_cons_cons,List.zip_nil_right,List.foldl_toArray',List.size_toArray,List.length_cons,List.length_nil,List.foldl_cons,List.foldl_nil,List.setIfInBounds_toArray,List.set_cons_succ,List.set_cons_zero]
  gi_wp2
  exact hK _ _ rfl (Keeps.refl _ _)
 case body=>
  rintro l1 pre ⟨xi,xs⟩ a' W' hlt ⟨v,a1,a2,a4,a5⟩ ⟨c1,c2⟩ rfl
  have hLc:CellsAt W' w.heap.size #[v]:=⟨_,a1⟩
  have d0:=hLc.cell 0
  simp at d0
  obtain ⟨va,vc,hv⟩:=ownE_len a2
  subst hv
  have kC:=Keeps.alloc [] W' (.cells #[.string xs] 9)
  have zC:=sizeE_alloc W' (.cells #[.string xs] 9)
  have hrowC:=ownsRow_kept a2 kC (by simp)
  have hplen:pre.length<ns.length:=(List.getElem?_eq_some_iff.1 c2).1
  have Hz2:=hide z2
  have Htk:Hid ((ns.take (pre.length+1)).map eS=(ns.take pre.length).map eS++[.string xs]):=hide (by rw [List.take_add_one,c2];simp [eS])
  clear z2 c1 c2
  have hone:∀ (j:Nat) (u:Value),[Value.string xs][j]?=some u→(W'.alloc (.cells #[.string xs] 9)).cell? ((⟨W'.heap.size,0,none⟩:Addr).add j)=some u:=by
   intro j u hu
   rw [Addr.add_lit,Nat.zero_add,(CellsAt.new W' #[.string xs] 9).cell]
   match j with
   | 0=>simpa using hu
   | j+1=>simp at hu
  gi_wp2_with (gi_at_builtin;refine wpListIn_append_own_at _ rfl _ _ 35 rfl W2.heap.size 9 i0 _ 1 16 Tryz.underlying35 hi0 hz0 hz1 hz2 rfl (by decide) _ pre.length _ rfl hrowC ⟨W'.heap.size,0,none⟩ 1 1 [.string xs] rfl (by simp) hone (by simp [Value.oneCell']) (by unfold maxLen;omega) (by omega) (by rw [zC];omega) ?_)
  intro v6 W6 hown6 hgrow6 hnil6 hat6
  obtain ⟨g6,cp6,rfl⟩:=ownE_succ hown6
  have k6:=grownBy_keeps' hgrow6 (ownL (.slice va pre.length vc)) (fun r e=>.inl (by simp [ownL,e]))
  have hlow:∀ j∈ownL (.slice va pre.length vc),W2.heap.size≤j∧∃ cs t f,(W'.alloc (.cells #[.string xs] 9)).heap[j]?=some (.cells cs t f):=fun j hj=>by
   obtain ⟨b1,cs,t,b2⟩:=ownE_base hrowC j (by simpa [ownL] using hj)
   exact ⟨b1,cs,t,_,b2⟩
  have hLC2:w.heap.size<W2.heap.size:=by have:=Hz2.out;omega
  have hL6:W6.heap[w.heap.size]?=some (.cells #[.slice va pre.length vc] 35 (0,0)):=(k6.block _ (by omega) (fun hm=>by have:=(hlow _ hm).1;omega)).trans ((kC.block _ (by omega) (by simp)).trans a1)
  have hL6c:CellsAt W6 w.heap.size #[.slice va pre.length vc]:=⟨_,hL6⟩
  have d6:=hL6c.cell 0
  have f6:=hL6c.frozen 0
  simp at d6
  have kS:=Keeps.setCell W6 ⟨w.heap.size,0,none⟩ (.slice (some ⟨g6,0,none⟩) (pre.length+1) cp6)
  have hL7:=cells_set hL6 0 (.slice (some ⟨g6,0,none⟩) (pre.length+1) cp6)
  have hown7:=ownsRow_kept hown6 kS (fun j hj hm=>by
   simp only [List.mem_singleton] at hm
   have:=(ownE_base hown6 j hj).1
   omega)
  have g7:Grows W2.heap.size [w.heap.size] W' (W6.setCell ⟨w.heap.size,0,none⟩ (.slice (some ⟨g6,0,none⟩) (pre.length+1) cp6)):=((kC.grows (by simp)).trans (k6.growsRow (fun j hj=>.inr (hlow j hj)))).trans (kS.grows (by simp))
  have Hfin:Hid (NmI W2 W2.heap.size w.heap.size ns (pre++[(xi,xs)]) (W6.setCell ⟨w.heap.size,0,none⟩ (.slice (some ⟨g6,0,none⟩) (pre.length+1) cp6))∧Grows W2.heap.size [w.heap.size] W' (W6.setCell ⟨w.heap.size,0,none⟩ (.slice (some ⟨g6,0,none⟩) (pre.length+1) cp6))):=hide ⟨⟨_,by simpa using hL7,by rw [List.length_append,List.length_singleton,Htk.out,List.map_take];exact hown7,Nat.le_trans a4 g7.size,fun j hj hne=>(g7.block j (by omega) (by simpa using hne) (.inl hj)).trans (a5 j hj hne)⟩,g7⟩
  clear g7 hown7 hL7 hlow hgrow6 hnil6 hat6 hown6 hrowC hone hit
  gi_wp2_with fail
  exact Hfin.out
 case done=>
  rintro xs W9 hG ⟨v,a1,a2,a4,a5⟩ hg9 hlt9 hD
  have hLc:CellsAt W9 w.heap.size #[v]:=⟨_,a1⟩
  have d0:=hLc.cell 0
  simp at d0
  have hxl:xs.length=ns.length:=hG
  rw [hxl,List.take_length] at a2
  have kP:=Keeps.putObj W9 W2.heap.size (.deferred none)
  have sP:Still W2.heap.size W9 (W9.putObj W2.heap.size (.deferred none)):=kP.still (by simp only [List.mem_singleton];rintro i rfl;exact ⟨Nat.le_refl _,by rw [hD];intro _ _ _ e;cases e⟩)
  have Hrow:=hide (ownsRow_base (still_row a2 sP) (show w.heap.size≤W2.heap.size by omega))
  have Hk:Hid (Keeps [] w (W9.putObj W2.heap.size (.deferred none))):=hide ⟨hg9.os.trans kW2.os,hg9.tape.trans kW2.tape,hg9.output.trans kW2.output,Nat.le_trans kW2.size (Nat.le_trans hg9.size kP.size),fun j hj _=>by
   rw [kP.block j (by have:=hg9.size;omega) (by simp;omega),a5 j (by omega) (by omega)]
   exact kW2.block j hj (by simp)⟩
  clear hit a2
  go_wp2_with fail
  refine ⟨by simp,.inl ⟨_,_,rfl,run_takeDeferred hD,?_⟩⟩
  exact ⟨_,results_tmp rfl _ _ _,v,rfl,Hrow.out,Hk.out⟩
theorem rels17_calls {w:World} {eb bb base:Nat} {a:Option Addr} {c:Nat} {ns:List ByteArray} (he:CellsAt w eb #[.pointer (some ⟨bb,0,none⟩)]) (hc:w.cell? ⟨bb,0,none⟩=some (.slice a ns.length c)) (hrow:w.ownsRow base 9 1 (.slice a ns.length c) ns.length (ns.map eS)) (hl:ns.length≤6):Calls Tryz.prog 17 #[.pointer (some ⟨eb,0,none⟩)] w (RlsTo w ns):=callsIn_wide.1 (rels17_in he hc hrow hl)
end
section
open Go.RowKit Go.Shelf
attribute [local go_sem] Oper.semAt_some
theorem addDom_codeZ {m:Mean} {n i:Tn} {f:Flt} (h:addDom m n i=.error f):f.1≠0:=by
 unfold addDom at h
 repeat' split at h
 all_goals first | (cases h;simp;done) | (cases h;done)
theorem colsS_codeZ {m:Mean} {k:Nat} {cs:List Tn} {f:Flt} (h:colsS m k cs=.error f):f.1≠0:=by
 induction cs generalizing k with
 | nil=>cases h
 | cons c cs ih=>
  simp only [colsS] at h
  split at h
  ·cases h;simp
  ·split at h
   ·cases h;simp
   ·split at h
    ·rename_i hq
     cases h
     exact ih hq
    ·cases h
theorem addRel_codeZ {m:Mean} {n:Tn} {cs:List Tn} {f:Flt} (h:addRel m n cs=.error f):f.1≠0:=by
 unfold addRel at h
 split at h
 ·cases h;simp
 ·split at h
  ·cases h;simp
  ·split at h
   ·rename_i hq
    cases h
    exact colsS_codeZ hq
   ·cases h
theorem termS_codeZ {m:Mean} {sc:Scope} {t:Tn} {d:Nat} {f:Flt} (h:termS m sc t d=.error f):f.1≠0:=by
 unfold termS at h
 repeat' split at h
 all_goals first | (cases h;simp;done) | (cases h;done)
theorem termsS_codeZ {m:Mean} {sc:Scope} {ts:List Tn} {ds:List Nat} {f:Flt} (h:termsS m sc ts ds=.error f):f.1≠0:=by
 induction ts generalizing sc ds with
 | nil=>simp [termsS] at h
 | cons t ts ih=>cases ds with
  | nil=>simp [termsS] at h
  | cons d ds=>
   simp only [termsS] at h
   split at h
   ·rename_i hq
    cases h
    exact termS_codeZ hq
   ·split at h
    ·rename_i hq
     cases h
     exact ih hq
    ·cases h
theorem atomS_codeZ {m:Mean} {sc:Scope} {a:AtomI} {f:Flt} (h:atomS m sc a=.error f):f.1≠0:=by
 unfold atomS at h
 split at h
 ·cases h;simp
 ·split at h
  ·cases h;simp
  ·split at h
   ·rename_i hq
    cases h
    exact termsS_codeZ hq
   ·cases h
theorem litsS_codeZ {m:Mean} {sc:Scope} {k:Nat} {ls:List LitI} {f:Flt} (h:litsS m sc k ls=.error f):f.1≠0:=by
 induction ls generalizing sc k with
 | nil=>cases h
 | cons l ls ih=>
  simp only [litsS] at h
  split at h
  ·cases h;simp
  ·split at h
   ·rename_i hq
    cases h
    exact atomS_codeZ hq
   ·split at h
    ·rename_i hq
     cases h
     exact ih hq
    ·cases h
theorem addClause_codeZ {m:Mean} {a:AtomI} {ls:List LitI} {f:Flt} (h:addClause m a ls=.error f):f.1≠0:=by
 unfold addClause at h
 split at h
 ·cases h;simp
 ·split at h
  ·rename_i hq
   cases h
   exact atomS_codeZ hq
  ·split at h
   ·rename_i hq
    cases h
    exact litsS_codeZ hq
   ·cases h
theorem senseS_codeZ {m:Mean} {is:List ItemI} {f:Flt} (h:senseS m is=.error f):f.1≠0:=by
 induction is generalizing m with
 | nil=>cases h
 | cons i is ih=>
  simp only [senseS] at h
  split at h
  ·rename_i hq
   cases h
   cases i with
   | dom n z=>exact addDom_codeZ hq
   | rel n cs=>exact addRel_codeZ hq
   | clause a ls=>exact addClause_codeZ hq
  ·exact ih h
theorem readS_code {s:ByteArray} {f:Flt} (h:readS s=.error f):f.1≠0:=by
 unfold readS at h
 split at h
 ·cases h;decide
 ·split at h
  ·cases h;simp
  ·split at h
   ·cases h;simp
   ·split at h
    ·rename_i hq
     cases h
     exact senseS_codeZ hq
    ·split at h
     ·rename_i hq
      cases h
      unfold laterS at hq
      split at hq
      ·cases hq;simp
      ·split at hq
       ·cases hq;simp
       ·cases hq
     ·cases h
theorem printed_no {w:World} (s:ByteArray) (hs:s.size≤9223372036854775807) {f:Flt} (hR:readS s=.error f):Calls Tryz.prog 7 #[.string s] w fun e w'=>e=.returned (.bool true)∧Keeps [] w w':=by
 have hwk:=hide (works_calls w)
 have hpr:=hide (fun (W:World)=>print_text (w:=W) s hs)
 have hck:=hide (fun (W:World)=>check_text (w:=W) s hs)
 have hld:=hide (fun (W:World)=>load_text (w:=W) s hs (fun t m h=>by rw [hR] at h;cases h))
 have hf0:=readS_code hR
 rw [hR] at hpr hck hld
 simp only [outOf,fltOf,LoadTo] at hpr hck hld
 obtain ⟨X,Y⟩:=f
 clear hR
 have hX:¬ (X:Int)=0:=by simpa using hf0
 clear hf0
 generalize (X:Int)=X at *
 generalize (Y:Int)=Y at *
 go_enter Tryz.func7,Tryz.ntmps7
 go_wp2_with fail
 refine hwk.out.mono ?_
 rintro e W0 ⟨rfl,k0⟩
 go_wp2_with fail
 refine (hpr.out _).mono ?_
 rintro e W1 ⟨rfl,k1⟩
 have kF:=Keeps.alloc [] W1 (.cells #[.int .i64 0,.int .i64 0] 28)
 have hF:=CellsAt.new W1 #[.int .i64 0,.int .i64 0] 28
 have zF:=sizeE_alloc W1 (.cells #[.int .i64 0,.int .i64 0] 28)
 generalize hWF:W1.alloc (.cells #[.int .i64 0,.int .i64 0] 28)=WF at *
 obtain ⟨c0,f0,c1,f1,hat,hk⟩:=res2 hF (.int .i64 X) (.int .i64 Y)
 have KE1:=hide ((k0.trans k1).trans (kF.trans_new hk (fun i hi=>.inr (by simp only [List.mem_singleton] at hi;omega))))
 have HA1:=hide hat
 clear hat hk hF kF k0 k1
 go_wp2_with fail
 generalize (WF.setCell ⟨W1.heap.size,0,none⟩ (.int .i64 X)).setCell ⟨W1.heap.size,1,none⟩ (.int .i64 Y)=E1 at *
 clear c0 c1 f0 f1 zF hWF
 refine (hck.out _).mono ?_
 rintro e W2 ⟨rfl,k2⟩
 have kF:=Keeps.alloc [] W2 (.cells #[.int .i64 0,.int .i64 0] 28)
 have hF:=CellsAt.new W2 #[.int .i64 0,.int .i64 0] 28
 have zF:=sizeE_alloc W2 (.cells #[.int .i64 0,.int .i64 0] 28)
 generalize hWF:W2.alloc (.cells #[.int .i64 0,.int .i64 0] 28)=WG at *
 obtain ⟨c0,f0,c1,f1,hat,hk⟩:=res2 hF (.int .i64 X) (.int .i64 Y)
 have k12:=k2.trans (kF.trans_new hk (fun i hi=>.inr (by simp only [List.mem_singleton] at hi;omega)))
 have KE2:=hide (KE1.out.trans k12)
 have HA2:=hide (HA1.out.keeps k12 (by simp))
 have HB2:=hide hat
 clear hat hk hF kF k2 k12 KE1 HA1
 go_wp2_with fail
 generalize (WG.setCell ⟨W2.heap.size,0,none⟩ (.int .i64 X)).setCell ⟨W2.heap.size,1,none⟩ (.int .i64 Y)=E2 at *
 clear c0 c1 f0 f1 zF hWF
 refine (hld.out _).mono ?_
 rintro e W3 ⟨rfl,k3⟩
 have kF:=Keeps.alloc [] W3 (.cells #[.int .i64 0,.int .i64 0] 28)
 have hF:=CellsAt.new W3 #[.int .i64 0,.int .i64 0] 28
 have zF:=sizeE_alloc W3 (.cells #[.int .i64 0,.int .i64 0] 28)
 generalize hWF:W3.alloc (.cells #[.int .i64 0,.int .i64 0] 28)=WH at *
 obtain ⟨c0,f0,c1,f1,hat,hk⟩:=res2 hF (.int .i64 X) (.int .i64 Y)
 have k23:=k3.trans (kF.trans_new hk (fun i hi=>.inr (by simp only [List.mem_singleton] at hi;omega)))
 have KE3:=hide (KE2.out.trans k23)
 have hA3:=HA2.out.keeps k23 (by simp)
 have hB3:=HB2.out.keeps k23 (by simp)
 have a0:=hA3.cell 0
 have a1:=hA3.cell 1
 have b0:=hB3.cell 0
 have b1:=hB3.cell 1
 have d0:=hat.cell 0
 have d1:=hat.cell 1
 simp at a0 a1 b0 b1 d0 d1
 clear hat hk hF kF k3 k23 KE2 HA2 HB2 hA3 hB3
 go_wp2_with fail
 go_ret
 exact ⟨rfl,KE3.out⟩
end
section
open Go.RowKit
def EngP (w:World) (m:Mean) (eb:Nat) (rk:Nat→List Nat→Option Nat):Prop:=
 (0<m.rels.length∧∃ z bb B S gr cr rs tv mv ka ks kc vals,Made w z eb m bb B S gr cr rs tv mv ka ks kc vals rk) ∨
 (m.rels.length=0∧∃ (bb:Nat) (pv:Value),CellsAt w eb #[.pointer (some ⟨bb,0,none⟩)]∧CellsAt w bb #[.slice none 0 0,.map none,.slice none 0 0,.slice none 0 0,pv])
theorem EngP.keeps0 {w w':World} {m:Mean} {eb:Nat} {rk:Nat→List Nat→Option Nat} (h:EngP w m eb rk) (k:Keeps [] w w'):EngP w' m eb rk:=by
 rcases h with ⟨h0,z,bb,B,S,gr,cr,rs,tv,mv,ka,ks,kc,vals,h⟩ | ⟨h0,bb,pv,h1,h2⟩
 ·exact .inl ⟨h0,z,bb,B,S,gr,cr,rs,tv,mv,ka,ks,kc,vals,h.keeps0 k⟩
 ·exact .inr ⟨h0,bb,pv,h1.keeps k (by simp),h2.keeps k (by simp)⟩
def LdTo (m:Mean) (e:Ending) (w':World):Prop:=∃ eb rk,e=.returned (.tuple #[.pointer (some ⟨eb,0,none⟩),.agg #[.int .i64 0,.int .i64 0]])∧EngP w' m eb rk
theorem load_any {w:World} (s:ByteArray) (hs:s.size≤9223372036854775807) {toks:List Tn} {m:Mean} (hR:readS s=.ok (toks,m)):Calls Tryz.prog 16 #[.string s] w fun e w'=>LdTo m e w'∧Keeps [] w w':=by
 rcases Nat.eq_zero_or_pos m.rels.length with h0 | h0
 ·refine (load_none s hs hR h0).mono ?_
  rintro e w' ⟨⟨eb,bb,pv,he,h1,h2⟩,k⟩
  exact ⟨⟨eb,fun _ _=>none,he,.inr ⟨h0,bb,pv,h1,h2⟩⟩,k⟩
 ·have:=load_text (w:=w) s hs (fun t m' h=>by rw [hR] at h;cases h;exact h0)
  rw [hR] at this
  refine this.mono ?_
  rintro e w' ⟨⟨eb,bb,B,S,gr,cr,rs,tv,mv,ka,ks,kc,vals,rk,he,h⟩,k⟩
  exact ⟨⟨eb,rk,he,.inl ⟨h0,_,bb,B,S,gr,cr,rs,tv,mv,ka,ks,kc,vals,h⟩⟩,k⟩
theorem EngP.rels {w:World} {m:Mean} {eb:Nat} {rk:Nat→List Nat→Option Nat} (h:EngP w m eb rk) (hf:MeanFine m):Calls Tryz.prog 17 #[.pointer (some ⟨eb,0,none⟩)] w (RlsTo w (m.rels.map Prod.fst)):=by
 have h6:(m.rels.map Prod.fst).length≤6:=by rw [List.length_map];exact hf.ok.rels
 rcases h with ⟨h0,z,bb,B,S,gr,cr,rs,tv,mv,ka,ks,kc,vals,h⟩ | ⟨h0,bb,pv,h1,h2⟩
 ·have hrow:=h.eng.set.row
  obtain ⟨a,c,hv⟩:=ownE_len hrow
  subst hv
  exact rels17_calls h.cell (by rw [h.eng.bse.cells.cell];rfl) hrow h6
 ·have e:m.rels.map Prod.fst=[]:=List.eq_nil_of_length_eq_zero (by rw [List.length_map];exact h0)
  rw [e]
  exact rels17_calls (base:=0) h1 (by rw [h2.cell];rfl) (World.ownsRow_nil ..) (by simp)
theorem place_at {m:Mean} (hok:MeanOk m) {i:Nat} {nm:ByteArray} {cols:List Nat} (h:m.rels[i]?=some (nm,cols)):placeB (m.rels.map Prod.fst) nm=some i:=by
 unfold placeB
 rw [List.findIdx?_eq_some_iff_getElem]
 have hil:=(List.getElem?_eq_some_iff.1 h).1
 refine ⟨by simpa using hil,by simp [(List.getElem?_eq_some_iff.1 h).2],fun j hj=>?_⟩
 have hjl:j<m.rels.length:=by omega
 simp only [List.getElem_map,decide_eq_true_eq]
 intro e
 have:=hok.onceR j i (m.rels[j]) (nm,cols) (List.getElem?_eq_getElem hjl) h e
 omega
theorem EngP.tups {w:World} {m:Mean} {eb:Nat} {rk:Nat→List Nat→Option Nat} (h:EngP w m eb rk) (hf:MeanFine m) {i:Nat} {nm:ByteArray} {cols:List Nat} (hi:m.rels[i]?=some (nm,cols)):Calls Tryz.prog 18 #[.pointer (some ⟨eb,0,none⟩),.string nm] w (TupTo cols.length ((alls cols.length).filter (fun l=>(rk i l).isSome)) w):=by
 rcases h with ⟨h0,z,bb,B,S,gr,cr,rs,tv,mv,ka,ks,kc,vals,h⟩ | ⟨h0,_⟩
 ·exact tuples18_calls h.eng hf h.cell (place_at hf.ok hi) hi
 ·have:=(List.getElem?_eq_some_iff.1 hi).1
  omega
theorem EngP.same {w w':World} {m m':Mean} {eb eb':Nat} {rk rk':Nat→List Nat→Option Nat} (he:eL m' = eL m) (h:EngP w m eb rk) (h':EngP w' m' eb' rk') (hf:MeanFine m) (hf':MeanFine m') (h0:0<m.rels.length):rk' = rk:=by
 rcases h with ⟨_,z,bb,B,S,gr,cr,rs,tv,mv,ka,ks,kc,vals,h⟩ | ⟨q,_⟩
 ·rcases h' with ⟨_,z',bb',B',S',gr',cr',rs',tv',mv',ka',ks',kc',vals',h'⟩ | ⟨q,_⟩
  ·exact ranks_same he hf hf' h h'
  ·rw [same_rels he] at q;omega
 ·omega
end
end Go.Proofs.YtgjomknpjigkhaaGreatDoor
