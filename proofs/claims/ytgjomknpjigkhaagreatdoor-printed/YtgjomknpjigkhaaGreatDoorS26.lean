import Derived.Test.YtgjomknpjigkhaaGreatDoorS25
namespace Go.Proofs.YtgjomknpjigkhaaGreatDoor
set_option maxRecDepth 100000
set_option maxHeartbeats 4000000
section
open Go.RowKit
def CloTo (w:World) (xs:List Int) (e:Ending) (w':World):Prop:=∃ v,e=.returned v∧w'.ownsRow w.heap.size 3 1 v xs.length (ints xs)∧Keeps [] w w'
theorem cloneE_calls {w:World} {g cap:Nat} {xs:List Int} (h:RowIs w g xs) (hl:xs.length≤1000000000) :
  Calls Tryz.prog 220 #[.slice (some ⟨g,0,none⟩) xs.length cap] w (CloTo w xs):=by
 obtain ⟨i0,hi,hz0,hz1,hz2⟩:=info_parts info3
 have heq:=fun (w:World) (n c:Nat)=>Lib.run_eql_slice_nil (P:=Tryz.prog) w 40 3 (some ⟨g,0,none⟩) n c 0 0 Tryz.underlying40
 have hk0:=Keeps.alloc [] w (.cells #[] 3)
 have hown:(w.alloc (.cells #[] 3)).ownsRow w.heap.size 3 1 (.slice (some ⟨w.heap.size,0,none⟩) 0 0) 0 []:=
  ⟨rfl,.inr ⟨w.heap.size,0,#[],rfl,Nat.le_refl _,(MapKept.heap_alloc w _).1,Nat.le_refl _,Nat.zero_le _,rfl,rfl⟩⟩
 have hcell:∀ (j:Nat) (u:Value),(ints xs)[j]?=some u→(w.alloc (.cells #[] 3)).cell? ((⟨g,0,none⟩:Addr).add j)=some u:=by
  intro j u hu
  obtain ⟨x,hx,rfl⟩:=ints_get xs j u hu
  rw [Addr.add_lit,Nat.zero_add]
  exact (h.of_heap (hk0.block g h.lt (by simp))).cell hx
 go_enter Tryz.func220,Tryz.ntmps220
 go_wp2_with (at_builtin;refine wpList_append_own _ rfl _ _ 40 rfl w.heap.size 3 i0 (.int .i64 0) 1 8 Tryz.underlying40 hi hz0 hz1 hz2 rfl (by decide) _ 0 [] rfl hown ⟨g,0,none⟩ xs.length cap (ints xs) rfl (by simp [ints]) hcell (ints_one xs) (by unfold maxLen;omega) (by omega) (by simp) ?_)
 intro v w1 h1 h2 h3
 have H1:=hide h1
 clear h1 h3
 go_wp2
 go_ret
 refine ⟨v,rfl,by simpa using H1.out,hk0.trans_new (grownBy_keeps' h2 [w.heap.size] (fun r e=>?_)) (fun i hi=>?_)⟩
 ·simp only [Value.ownBlock,Option.some.injEq] at e;exact .inl (by simp [e])
 ·simp only [List.mem_singleton] at hi;exact .inr (by omega)
theorem cloneE_nil (w:World):Calls Tryz.prog 220 #[.slice none 0 0] w (CloTo w []):=by
 have heq:=fun (w:World)=>Lib.run_eql_slice_nil (P:=Tryz.prog) w 40 3 none 0 0 0 0 Tryz.underlying40
 go_enter Tryz.func220,Tryz.ntmps220
 go_wp2
 go_ret
 exact ⟨_,rfl,⟨rfl,.inl ⟨rfl,rfl⟩⟩,Keeps.refl _ _⟩
theorem two_cellsE {W:World} {y z:Int}:∀ (j:Nat) (x:Value),(ints [y,z])[j]?=some x→(W.alloc (.cells #[.int .i64 y,.int .i64 z] 3)).cell? ((⟨W.heap.size,0,none⟩:Addr).add j)=some x:=by
 intro j x hx
 rw [Addr.add_lit,Nat.zero_add,(CellsAt.new W #[.int .i64 y,.int .i64 z] 3).cell]
 match j with
 | 0=>simpa [ints] using hx
 | 1=>simpa [ints] using hx
 | n+2=>simp [ints] at hx
def rootsR (rs:List RelX):List Int:=rs.flatMap (fun r=>[r.fa,r.tu])
def rootsU (us:List RuX):List Int:=us.flatMap (fun u=>u.hs)
theorem rootsR_snoc (rs:List RelX) (r:RelX):rootsR (rs++[r])=rootsR rs++[r.fa,r.tu]:=by simp [rootsR]
theorem rootsU_snoc (us:List RuX) (u:RuX):rootsU (us++[u])=rootsU us++u.hs:=by simp [rootsU]
theorem rootsR_length (rs:List RelX):(rootsR rs).length=rs.length * 2:=by
 induction rs with
 | nil=>rfl
 | cons r rs ih=>simp only [rootsR,List.flatMap_cons,List.length_append,List.length_cons,List.length_nil] at ih ⊢;omega
theorem rootsU_length {us:List RuX} (h:∀ u∈us,u.hs.length≤4):(rootsU us).length≤us.length * 4:=by
 induction us with
 | nil=>simp [rootsU]
 | cons r rs ih=>
  have h1:=ih (fun u hu=>h u (List.mem_cons_of_mem _ hu))
  have h2:=h r (List.mem_cons_self ..)
  simp only [rootsU,List.flatMap_cons,List.length_append,List.length_cons] at h1 ⊢
  omega
def SwpTo (B:SB) (w:World) (S:ST) (roots:List Int) (e:Ending) (w':World):Prop:=
 e=.returned (.tuple #[])∧∃ S',EngS w' B S'∧Keeps B.own w w'∧S'.next=S.next∧∀ (f:Int) (c:Nat) (R:List Nat→Prop),f∈roots→Rep S f c R→Rep S' f c R
theorem Swept.rep {S S':ST} {roots:List Int} (h:Swept S S' roots) (hw:WF S) (hr:RootsOk S roots) {f:Int} {c:Nat} {R:List Nat→Prop} (hf:f∈roots) (hR:Rep S f c R):Rep S' f c R:=by
 have hk:=h.ok_root hr hf
 exact ⟨hk,fun σ=>by rw [h.den hw hk];exact hR.2 σ⟩
theorem sweepB_calls {w:World} {bb gr cr:Nat} {B:SB} {S:ST} {rs:List RelX} {x0 x1 x3:Value} (h:Bse w bb B S gr cr rs x0 x1 x3) {X:List Nat} {gu uc:Nat} {ua:Option Addr} {us:List RuX} (hua:0<us.length→ua=some ⟨gu,0,none⟩) (hu:RusAt w X gu us) (h4:∀ u∈us,u.hs.length≤4) (h52:us.length≤52) {fv:Value} {fs:List Int} (hfs:fs.length≤6) (hcl:Calls Tryz.prog 220 #[fv] w (CloTo w fs)) (h0:0<rs.length) (hr:RootsOk S (fs++rootsR rs++rootsU us)) :
  Calls Tryz.prog 151 #[.pointer (some ⟨bb,0,none⟩),.slice ua us.length uc,fv] w (SwpTo B w S (fs++rootsR rs++rootsU us)):=by
 have h6:=h.few
 obtain ⟨i0,hi0,hz0,hz1,hz2⟩:=info_parts info3
 have Hcl:=hide hcl
 have Hr:=hide hr
 clear hcl hr
 go_enter Tryz.func151,Tryz.ntmps151
 go_wp2_with fail
 refine Hcl.out.mono ?_
 rintro e W1 ⟨v1,rfl,ho1,k1⟩
 have hb1:=h.keeps0 k1
 have g2:=hb1.cells.cell 2
 simp at g2
 have Ho1:=hide ho1
 clear ho1
 go_wp2_with fail
 go_loopw [6,18] (fun x y wr=>∃ (j:Nat) (xs:List Int),y=.int .i64 j∧j≤rs.length∧Hid (wr.ownsRow w.heap.size 3 1 x xs.length (ints xs))∧Hid (xs=fs++rootsR (rs.take j))∧Keeps [] w wr) (fun _ y _=>((rs.length:Int) - intOf y).toNat)
 case atStart=>exact ⟨0,fs,rfl,by omega,Ho1,hide (by simp [rootsR]),k1⟩
 case round=>
  obtain ⟨j,xs,rfl,hj,hho,hxs,hk⟩:=hrel
  have hbr:=h.keeps0 hk
  have hxl:xs.length≤18:=by rw [hxs.out,List.length_append,rootsR_length,List.length_take];omega
  have hlow:∀ q,Value.ownBlock u6=some q→w.heap.size≤q:=fun q hq=>(ownE_base hho.out q hq).1
  by_cases hjl:j<rs.length
  ·have hjI:(j:Int)<rs.length:=by omega
   obtain ⟨r,hrj⟩:∃ r,rs[j]?=some r:=⟨_,List.getElem?_eq_getElem hjl⟩
   obtain ⟨cs,hc,hcs⟩:=hbr.rel
   have hc5:=hcs j r hrj
   have q0:wr.cell? ⟨gr,j * 5,none⟩=some (.slice r.sa r.n r.cc):=by rw [hc.cell];exact hc5.c0
   have q1:wr.cell? ⟨gr,j * 5+1,none⟩=some (.int .i64 (r.layer:Int)):=by rw [hc.cell];exact hc5.c1
   have q2:wr.cell? ⟨gr,j * 5+2,none⟩=some (.int .i64 r.fa):=by rw [hc.cell];exact hc5.c2
   have q3:wr.cell? ⟨gr,j * 5+3,none⟩=some (.int .i64 r.tu):=by rw [hc.cell];exact hc5.c3
   have q4:wr.cell? ⟨gr,j * 5+4,none⟩=some (.map (some r.rm)):=by rw [hc.cell];exact hc5.c4
   have kA:=Keeps.alloc [] wr (.cells #[.slice r.sa r.n r.cc,.int .i64 (r.layer:Int),.int .i64 r.fa,.int .i64 r.tu,.map (some r.rm)] 148)
   have hA:=CellsAt.new wr #[.slice r.sa r.n r.cc,.int .i64 (r.layer:Int),.int .i64 r.fa,.int .i64 r.tu,.map (some r.rm)] 148
   have zA:=sizeE_alloc wr (.cells #[.slice r.sa r.n r.cc,.int .i64 (r.layer:Int),.int .i64 r.fa,.int .i64 r.tu,.map (some r.rm)] 148)
   generalize hWA:wr.alloc (.cells #[.slice r.sa r.n r.cc,.int .i64 (r.layer:Int),.int .i64 r.fa,.int .i64 r.tu,.map (some r.rm)] 148)=WA at *
   have d2:=hA.cell 2
   have d3:=hA.cell 3
   simp at d2 d3
   have kC:=Keeps.alloc [] WA (.cells #[.int .i64 r.fa,.int .i64 r.tu] 3)
   have kAC:=kA.trans kC
   have hoC:=ownsRow_kept hho.out kAC (by simp)
   have hszC:w.heap.size≤(WA.alloc (.cells #[.int .i64 r.fa,.int .i64 r.tu] 3)).heap.size:=by rw [sizeE_alloc];have:=hk.size;omega
   have htwo:=two_cellsE (W:=WA) (y:=r.fa) (z:=r.tu)
   rw [zA] at htwo
   have Htk:=hide (show rs.take (j+1)=rs.take j++[r] by rw [List.take_add_one,hrj];rfl)
   clear hrj hcs hc5 hc
   go_wp2_with (at_builtin;refine wpList_append_own_at _ rfl _ _ 40 rfl w.heap.size 3 i0 (.int .i64 0) 1 8 Tryz.underlying40 hi0 hz0 hz1 hz2 rfl (by decide) _ xs.length (ints xs) rfl hoC ⟨wr.heap.size+1,0,none⟩ 2 2 (ints [r.fa,r.tu]) rfl (by simp [ints]) htwo (ints_one _) (by unfold maxLen;omega) (by omega) hszC ?_)
   intro v7 W7 hown7 hgrow7 hnil7 hat7
   have k7:=grownBy_keeps' hgrow7 (Value.ownBlock u6).toList (fun q e=>.inl (by simp [e]))
   have kF:Keeps [] w W7:=(hk.trans kAC).trans_new k7 (fun q hq=>.inr (hlow q (by simpa using hq)))
   have HoS:=hide hown7
   clear hown7 hgrow7 hnil7 hat7 htwo hszC hoC d2 d3 q0 q1 q2 q3 q4 hWA
   go_wp2_with fail
   go_roundw
   ·refine ⟨j+1,xs++[r.fa,r.tu],by simp,by omega,hide ?_,hide ?_,kF⟩
    ·have:=HoS.out;simpa [ints] using this
    ·rw [Htk.out,rootsR_snoc,hxs.out,List.append_assoc]
   ·simp only [intOf];omega
  ·have hjI:¬ (j:Int)<rs.length:=by omega
   have e:j=rs.length:=by omega
   subst e
   rw [List.take_length] at hxs
   have k2:=hk
   have ho2:=hho
   have hx2:=hxs
   clear g2 hb1 Ho1 k1
   go_wp2_with fail
   clear hk hho hxs hbr hxl hlow
   go_loopw [6,32] (fun x y wr=>∃ (j:Nat) (xs:List Int),y=.int .i64 j∧j≤us.length∧Hid (wr.ownsRow w.heap.size 3 1 x xs.length (ints xs))∧Hid (xs=fs++rootsR rs++rootsU (us.take j))∧Keeps [] w wr) (fun _ y _=>((us.length:Int) - intOf y).toNat)
   case atStart=>exact ⟨0,xs,rfl,by omega,ho2,hide (by rw [hx2.out];simp [rootsU]),k2⟩
   case round=>
    obtain ⟨j,xs,rfl,hj,hho,hxs,hk⟩:=hrel
    have hbr:=h.keeps0 hk
    have hxl:xs.length≤226:=by
     have:=rootsU_length (us:=us.take j) (fun u hu=>h4 u (List.mem_of_mem_take hu))
     rw [List.length_take] at this
     rw [hxs.out,List.length_append,List.length_append,rootsR_length];omega
    have hlow:∀ q,Value.ownBlock u6=some q→w.heap.size≤q:=fun q hq=>(ownE_base hho.out q hq).1
    by_cases hjl:j<us.length
    ·have hjI:(j:Int)<us.length:=by omega
     obtain ⟨u,huj⟩:∃ u,us[j]?=some u:=⟨_,List.getElem?_eq_getElem hjl⟩
     have hur:=hu.keeps hk (by simp)
     obtain ⟨cs,hc,hcs⟩:=hur.cells (by omega)
     have hc4:=hcs j u huj
     have hua':=hua (by omega)
     have hhr:=(hur.hld u (List.mem_of_getElem? huj)).1
     have hu4:=h4 u (List.mem_of_getElem? huj)
     have q0:wr.cell? ⟨gu,j * 4,none⟩=some (.int .i64 (u.c.head.rel:Int)):=by rw [hc.cell];exact hc4.c0
     have q1:wr.cell? ⟨gu,j * 4+1,none⟩=some (.slice (some ⟨u.gt,0,none⟩) u.c.head.terms.length u.tc):=by rw [hc.cell];exact hc4.c1
     have q2:wr.cell? ⟨gu,j * 4+2,none⟩=some (.slice u.la u.c.lits.length u.lc):=by rw [hc.cell];exact hc4.c2
     have q3:wr.cell? ⟨gu,j * 4+3,none⟩=some (.slice (some ⟨u.gh,0,none⟩) u.hs.length u.ch):=by rw [hc.cell];exact hc4.c3
     subst hua'
     have kA:=Keeps.alloc [] wr (.cells #[.int .i64 (u.c.head.rel:Int),.slice (some ⟨u.gt,0,none⟩) u.c.head.terms.length u.tc,.slice u.la u.c.lits.length u.lc,.slice (some ⟨u.gh,0,none⟩) u.hs.length u.ch] 295)
     have hA:=CellsAt.new wr #[.int .i64 (u.c.head.rel:Int),.slice (some ⟨u.gt,0,none⟩) u.c.head.terms.length u.tc,.slice u.la u.c.lits.length u.lc,.slice (some ⟨u.gh,0,none⟩) u.hs.length u.ch] 295
     have zA:=sizeE_alloc wr (.cells #[.int .i64 (u.c.head.rel:Int),.slice (some ⟨u.gt,0,none⟩) u.c.head.terms.length u.tc,.slice u.la u.c.lits.length u.lc,.slice (some ⟨u.gh,0,none⟩) u.hs.length u.ch] 295)
     generalize hWA:wr.alloc (.cells #[.int .i64 (u.c.head.rel:Int),.slice (some ⟨u.gt,0,none⟩) u.c.head.terms.length u.tc,.slice u.la u.c.lits.length u.lc,.slice (some ⟨u.gh,0,none⟩) u.hs.length u.ch] 295)=WA at *
     have d3:=hA.cell 3
     simp at d3
     have hhA:=hhr.keepsE kA (by simp)
     have hcell:∀ (i:Nat) (x:Value),(ints u.hs)[i]?=some x→WA.cell? ((⟨u.gh,0,none⟩:Addr).add i)=some x:=by
      intro i x hx
      obtain ⟨y,hy,rfl⟩:=ints_get u.hs i x hx
      rw [Addr.add_lit,Nat.zero_add]
      exact hhA.cell hy
     have hoC:=ownsRow_kept hho.out kA (by simp)
     have hszC:w.heap.size≤WA.heap.size:=by have:=hk.size;omega
     have Htk:=hide (show us.take (j+1)=us.take j++[u] by rw [List.take_add_one,huj];rfl)
     clear huj hcs hc4 hc
     go_wp2_with (at_builtin;refine wpList_append_own_at _ rfl _ _ 40 rfl w.heap.size 3 i0 (.int .i64 0) 1 8 Tryz.underlying40 hi0 hz0 hz1 hz2 rfl (by decide) _ xs.length (ints xs) rfl hoC ⟨u.gh,0,none⟩ u.hs.length u.ch (ints u.hs) rfl (by simp [ints]) hcell (ints_one _) (by unfold maxLen;omega) (by omega) hszC ?_)
     intro v7 W7 hown7 hgrow7 hnil7 hat7
     have k7:=grownBy_keeps' hgrow7 (Value.ownBlock u6).toList (fun q e=>.inl (by simp [e]))
     have kF:Keeps [] w W7:=(hk.trans kA).trans_new k7 (fun q hq=>.inr (hlow q (by simpa using hq)))
     have HoS:=hide hown7
     clear hown7 hgrow7 hnil7 hat7 hcell hszC hoC d3 q0 q1 q2 q3 hWA
     go_wp2_with fail
     go_roundw
     ·refine ⟨j+1,xs++u.hs,by simp,by omega,hide ?_,hide ?_,kF⟩
      ·have:=HoS.out;simpa [ints] using this
      ·rw [Htk.out,rootsU_snoc,hxs.out];simp only [List.append_assoc]
     ·simp only [intOf];omega
    ·have hjI:¬ (j:Int)<us.length:=by omega
     have e:j=us.length:=by omega
     subst e
     rw [List.take_length] at hxs
     have hx0:0<xs.length:=by rw [hxs.out,List.length_append,List.length_append,rootsR_length];omega
     obtain ⟨g0,c0,hv,hg0,hrow,_⟩:=rowE_of hho.out hx0
     subst hv
     have hE:=hbr.eng
     have hsw:=hide (sweep_callsE hE.sat hE.wf g0 c0 xs hrow (h.eng.sat.fresh hg0) (by rw [hxs.out];exact Hr.out) (by omega) (by rw [hE.n];omega))
     have g4:=hbr.bs.cell
     go_wp2_with fail
     refine hsw.out.mono ?_
     rintro e W5 ⟨rfl,S5,hsat5,hsw5,k5⟩
     go_wp2_with fail
     go_end0
     refine ⟨rfl,S5,⟨hsat5,hsw5.wf hE.wf,hsw5.kok,by rw [hsw5.order];exact hE.ord,hE.co⟩,(hk.mono (by simp)).trans k5,hsw5.next,fun f c R hf hR=>hsw5.rep hE.wf (by rw [hxs.out];exact Hr.out) (by rw [hxs.out];exact hf) hR⟩
end
section
open Go.RowKit
def beginC (cs:List ClauseM) (HS:Nat→List (List Nat→Prop)) (i:Nat) (l:List Nat):Prop:=∃ (p:Nat) (c:ClauseM),cs[p]?=some c∧c.head.rel=i∧brings c.head.terms (fun ν=>allH (HS p) c.lits.length ν) l
def thenC (cs:List ClauseM) (HS:Nat→List (List Nat→Prop)) (Xf:Nat→List Nat→Prop) (i:Nat) (l:List Nat):Prop:=
 ∃ (p:Nat) (c:ClauseM) (k:Nat) (a:AtomM×Bool),cs[p]?=some c∧c.head.rel=i∧c.lits[k]?=some a∧brings c.head.terms (fun ν=>cameH Xf a ν∧allH (orTo (HS p) (c.lits.map (cameH Xf)) c.lits.length) c.lits.length ν) l
def hsC (cs:List ClauseM) (HS:Nat→List (List Nat→Prop)) (Xf:Nat→List Nat→Prop) (p:Nat):List (List Nat→Prop):=match cs[p]? with | some c=>orTo (HS p) (c.lits.map (cameH Xf)) c.lits.length | none=>HS p
theorem first_same {us:List RuX} {cs:List ClauseM} (hc:us.map (·.c)=cs) (hh:∀ u∈us,u.hs.length=u.c.lits.length) (HS:Nat→List (List Nat→Prop)) (i:Nat) (l:List Nat):bringsTo us HS us.length i l↔beginC cs HS i l:=by
 subst hc
 constructor
 ·rintro ⟨p,u,_,h2,h3,h4⟩
  exact ⟨p,u.c,by rw [List.getElem?_map,h2];rfl,h3,by rw [←hh u (List.mem_of_getElem? h2)];exact h4⟩
 ·rintro ⟨p,c,h2,h3,h4⟩
  rw [List.getElem?_map] at h2
  obtain ⟨u,hu,rfl⟩:=Option.map_eq_some_iff.1 h2
  exact ⟨p,u,(List.getElem?_eq_some_iff.1 hu).1,hu,h3,by rw [hh u (List.mem_of_getElem? hu)];exact h4⟩
theorem next_same {us:List RuX} {cs:List ClauseM} (hc:us.map (·.c)=cs) (HS:Nat→List (List Nat→Prop)) (Xf:Nat→List Nat→Prop) (i:Nat) (l:List Nat):nextTo us HS Xf us.length 0 i l↔thenC cs HS Xf i l:=by
 subst hc
 constructor
 ·rintro ⟨p,u,k,a,_,h2,h3,h4,h5⟩
  exact ⟨p,u.c,k,a,by rw [List.getElem?_map,h2];rfl,h3,h4,h5⟩
 ·rintro ⟨p,c,k,a,h2,h3,h4,h5⟩
  rw [List.getElem?_map] at h2
  obtain ⟨u,hu,rfl⟩:=Option.map_eq_some_iff.1 h2
  exact ⟨p,u,k,a,.inl (List.getElem?_eq_some_iff.1 hu).1,hu,h3,h4,h5⟩
theorem hs_same {us:List RuX} {cs:List ClauseM} (hc:us.map (·.c)=cs) (HS:Nat→List (List Nat→Prop)) (Xf:Nat→List Nat→Prop) (p:Nat):HSj us HS Xf us.length p=hsC cs HS Xf p:=by
 subst hc
 unfold HSj hsC
 rw [List.getElem?_map]
 split
 ·rename_i h
  rw [List.getElem?_eq_getElem h]
  rfl
 ·rename_i h
  rw [List.getElem?_eq_none (by omega)]
  rfl
structure Rnd where
 rk:Nat→List Nat→Option Nat
 hs:Nat→List (List Nat→Prop)
 x:Nat→List Nat→Prop
noncomputable def rnd (cs:List ClauseM) (n:Nat) (rk0:Nat→List Nat→Option Nat) (hs0:Nat→List (List Nat→Prop)):Nat→Rnd
 | 0=>⟨rk0,hs0,outX (beginC cs hs0) rk0 n⟩
 | t+1=>⟨freshRk (rnd cs n rk0 hs0 t).rk (rnd cs n rk0 hs0 t).x (t+1) n,hsC cs (rnd cs n rk0 hs0 t).hs (rnd cs n rk0 hs0 t).x,outX (thenC cs (rnd cs n rk0 hs0 t).hs (rnd cs n rk0 hs0 t).x) (freshRk (rnd cs n rk0 hs0 t).rk (rnd cs n rk0 hs0 t).x (t+1) n) n⟩
theorem rnd_out (cs:List ClauseM) (n:Nat) (rk0:Nat→List Nat→Option Nat) (hs0:Nat→List (List Nat→Prop)) (t:Nat) {i:Nat} {l:List Nat} (hi:i<n) (hx:(rnd cs n rk0 hs0 t).x i l):(rnd cs n rk0 hs0 t).rk i l=none:=by
 have h1:((rnd cs n rk0 hs0 t).rk i l).isSome≠true:=by
  cases t with
  | zero=>exact hx.2 hi
  | succ t=>exact hx.2 hi
 cases h:(rnd cs n rk0 hs0 t).rk i l with
 | none=>rfl
 | some m=>rw [h] at h1;simp at h1
def missOf (n:Nat) (rk:List Nat→Option Nat):Nat:=((alls n).filter (fun l=>(rk l).isNone)).length
def missFrom (rks:Nat→List Nat→Option Nat):List Nat→Nat→Nat
 | [],_=>0
 | n :: ns,i=>missOf n (rks i)+missFrom rks ns (i+1)
theorem filt_le {α:Type} {p q:α→Bool} (h:∀ x,p x=true→q x=true):∀ l:List α,(l.filter p).length≤(l.filter q).length
 | []=>Nat.le_refl _
 | a :: l=>by
  have ih:=filt_le h l
  cases hp:p a
  ·cases hq:q a
   ·simpa [hp,hq] using ih
   ·simp only [List.filter_cons,hp,hq,if_true,List.length_cons];simp;omega
  ·have hq:=h a hp
   simp only [List.filter_cons,hp,hq,if_true,List.length_cons];omega
theorem filt_lt {α:Type} {p q:α→Bool} (h:∀ x,p x=true→q x=true):∀ (l:List α) (x:α),x∈l→q x=true→p x=false→(l.filter p).length<(l.filter q).length
 | [],_,hx,_,_=>by cases hx
 | a :: l,x,hx,h1,h2=>by
  have le:=filt_le h l
  rcases List.mem_cons.1 hx with rfl | hx
  ·simp only [List.filter_cons,h1,h2,if_true,List.length_cons];simp;omega
  ·have ih:=filt_lt h l x hx h1 h2
   cases hp:p a
   ·cases hq:q a
    ·simpa [hp,hq] using ih
    ·simp only [List.filter_cons,hp,hq,if_true,List.length_cons];simp;omega
   ·have hq:=h a hp
    simp only [List.filter_cons,hp,hq,if_true,List.length_cons];omega
theorem missFrom_le {rks rks':Nat→List Nat→Option Nat} (h:∀ i l,(rks' i l).isNone=true→(rks i l).isNone=true):∀ (ns:List Nat) (i:Nat),missFrom rks' ns i≤missFrom rks ns i
 | [],_=>Nat.le_refl _
 | _ :: ns,i=>Nat.add_le_add (filt_le (h i) _) (missFrom_le h ns (i+1))
theorem missFrom_lt {rks rks':Nat→List Nat→Option Nat} (h:∀ i l,(rks' i l).isNone=true→(rks i l).isNone=true) {l:List Nat}:∀ (ns:List Nat) (i j n:Nat),ns[j]?=some n→l∈alls n→rks (i+j) l=none→(rks' (i+j) l).isNone=false→missFrom rks' ns i<missFrom rks ns i
 | [],_,_,_,hj,_,_,_=>by simp at hj
 | m :: ns,i,0,n,hj,hl,h1,h2=>by
  have e:m=n:=by simpa using hj
  subst e
  exact Nat.add_lt_add_of_lt_of_le (filt_lt (h i) _ l hl (by show ((rks i l).isNone)=true;rw [show i=i+0 by omega,h1];rfl) h2) (missFrom_le h ns (i+1))
 | m :: ns,i,j+1,n,hj,hl,h1,h2=>by
  have e:i+(j+1)=i+1+j:=by omega
  rw [e] at h1 h2
  exact Nat.add_lt_add_of_le_of_lt (filt_le (h i) _) (missFrom_lt h ns (i+1) j n (by simpa using hj) hl h1 h2)
theorem fresh_less {rks:Nat→List Nat→Option Nat} {X:Nat→List Nat→Prop} {k n:Nat} (i:Nat) (l:List Nat) (h:(freshRk rks X k n i l).isNone=true):(rks i l).isNone=true:=by
 unfold freshRk at h
 split at h
 ·unfold addRk at h
  split at h
  ·simp at h
  ·exact h
 ·exact h
theorem miss_step {rks:Nat→List Nat→Option Nat} {X:Nat→List Nat→Prop} {k:Nat} {ns:List Nat} {j n:Nat} {l:List Nat} (hj:ns[j]?=some n) (hl:l∈alls n) (hX:X j l) (h0:rks j l=none):missFrom (freshRk rks X k ns.length) ns 0<missFrom rks ns 0:=by
 refine missFrom_lt fresh_less ns 0 j n hj hl (by rw [Nat.zero_add];exact h0) ?_
 rw [Nat.zero_add]
 have hjl:=(List.getElem?_eq_some_iff.1 hj).1
 unfold freshRk addRk
 rw [if_pos hjl,if_pos hX]
 rfl
theorem Rep.some {S:ST} (hw:WF S) {f:Int} {c:Nat} {R:List Nat→Prop} (h:Rep S f c R) (hf:f≠0):∃ l,l∈alls c∧R l:=by
 refine Classical.byContradiction fun hn=>hf ?_
 refine den_inj hw h.1 (ok_zero S) fun σ=>?_
 rw [den_zero]
 cases hd:S.den f σ with
 | false=>rfl
 | true=>exact absurd ⟨_,tupF_mem σ c 0,(h.2 σ).1 hd⟩ hn
theorem gB_some {fs:List Int} (h:gB fs fs.length=true):∃ (j:Nat) (f:Int),fs[j]?=some f∧f≠0:=by
 unfold gB at h
 rw [List.take_length,List.any_eq_true] at h
 obtain ⟨f,hf,h1⟩:=h
 obtain ⟨j,hj,rfl⟩:=List.getElem_of_mem hf
 exact ⟨j,_,List.getElem?_eq_getElem hj,by simpa using h1⟩
theorem gB_none {fs:List Int} (h:gB fs fs.length=false):∀ (j:Nat) (f:Int),fs[j]?=some f→f=0:=fun j f hf=>by
 unfold gB at h
 rw [List.take_length,List.any_eq_false] at h
 have:=h f (List.mem_of_getElem? hf)
 simpa using this
theorem AllS.swept {S S':ST} {rs:List RelX} {Fs:Nat→List Nat→Prop} {rks:Nat→List Nat→Option Nat} (h:AllS S rs Fs rks) (hr:∀ (f:Int) (c:Nat) (R:List Nat→Prop),f∈rootsR rs→Rep S f c R→Rep S' f c R):AllS S' rs Fs rks:=fun i r hi=>
 have hm:r∈rs:=List.mem_of_getElem? hi
 ⟨hr _ _ _ (List.mem_flatMap.2 ⟨r,hm,by simp⟩) (h i r hi).fa,hr _ _ _ (List.mem_flatMap.2 ⟨r,hm,by simp⟩) (h i r hi).tu,(h i r hi).ranks⟩
theorem FndS.swept {S S':ST} {rs:List RelX} {fs:List Int} {Xs:Nat→List Nat→Prop} (h:FndS S rs fs Xs) (hr:∀ (f:Int) (c:Nat) (R:List Nat→Prop),f∈fs→Rep S f c R→Rep S' f c R):FndS S' rs fs Xs:=⟨h.1,fun i r f h1 h2=>hr _ _ _ (List.mem_of_getElem? h2) (h.2 i r f h1 h2)⟩
theorem HolS.swept {S S':ST} {us:List RuX} {HS:Nat→List (List Nat→Prop)} (h:HolS S us HS) (hr:∀ (f:Int) (c:Nat) (R:List Nat→Prop),f∈rootsU us→Rep S f c R→Rep S' f c R):HolS S' us HS:=fun i u hi=>⟨(h i u hi).1,fun k y H h1 h2=>hr _ _ _ (List.mem_flatMap.2 ⟨u,List.mem_of_getElem? hi,List.mem_of_getElem? h1⟩) ((h i u hi).2 k y H h1 h2)⟩
end
section
open Go.RowKit
theorem Bse.ftp_lt {w:World} {bb gr cr:Nat} {B:SB} {S:ST} {rs:List RelX} {x0 x1 x3:Value} (h:Bse w bb B S gr cr rs x0 x1 x3):∀ j∈ftp B gr rs,j<w.heap.size:=fun j hj=>by
 simp only [ftp,List.mem_cons,List.mem_append,List.mem_map] at hj
 rcases hj with rfl | ⟨r,hr,rfl⟩ | hj
 ·obtain ⟨cs,hc,_⟩:=h.rel;exact hc.lt
 ·exact (h.maps r hr).lt
 ·exact h.eng.sat.lt j hj
theorem Begun.rus {w w':World} {S:ST} {rks:Nat→List Nat→Option Nat} {v:Value} {us:List RuX} {X T:List Nat} (h:Begun w' w.heap.size S rks v us) (hX:∀ j∈X,j<w.heap.size) (hclu:∀ u∈us,CluAt w X u.toCluX) (k:Keeps T w w') (hT:∀ j∈T,j∈X):∃ ua gu uc,v=.slice ua us.length uc∧(0<us.length→ua=some ⟨gu,0,none⟩)∧RusAt w' X gu us:=by
 have hclu':∀ u∈us,CluAt w' (us.map (·.gh)++X) u.toCluX:=fun u hu=>((hclu u hu).apart (Y:=us.map (·.gh)++X) (fun j hj=>by
  rcases List.mem_append.1 hj with q | q
  ·obtain ⟨x,hx,rfl⟩:=List.mem_map.1 q;exact .inr (h.hld x hx).2.1
  ·exact .inl q)).keeps k (fun j hj=>.inl (List.mem_append.2 (.inr (hT j hj))))
 have hhld:∀ u∈us,RowIs w' u.gh u.hs∧u.gh∉X∧u.hs.length=u.c.lits.length:=fun u hu=>by
  obtain ⟨h1,h2,h3,_,_⟩:=h.hld u hu
  exact ⟨h1,fun q=>by have:=hX _ q;omega,h3⟩
 obtain ⟨e0,⟨rfl,e2⟩ | ⟨g,cap,cur,rfl,e2,e3,e4,e5,e6,e7⟩⟩:=id h.row
 ·exact ⟨none,0,0,by rw [e2],fun q=>by omega,⟨fun q=>by omega,fun q=>by omega,hclu',hhld,h.nodup⟩⟩
 ·refine ⟨some ⟨g,0,none⟩,g,cap,rfl,fun _=>rfl,⟨fun _=>⟨cur,⟨_,e3⟩,fun i u hi=>?_⟩,fun _=>⟨fun q=>by have:=hX _ q;omega,fun u hu=>(h.hld u hu).2.2.2.2 g rfl⟩,hclu',hhld,h.nodup⟩⟩
  have hil:=(List.getElem?_eq_some_iff.1 hi).1
  have hget:∀ q,q<4→cur[i * 4+q]?=(ruC u)[q]?:=fun q hq=>by
   rw [←ruCs_at hi hq,←e7,List.getElem?_take,if_pos (by omega),Array.getElem?_toList]
  exact ⟨hget 0 (by omega),hget 1 (by omega),hget 2 (by omega),hget 3 (by omega)⟩
theorem layOf_like {rs rs':List RelX} (h:LikeRs rs rs') (i:Nat):layOf rs' i=layOf rs i:=by
 unfold layOf
 cases e:rs[i]? with
 | none=>
  have:rs'[i]?=none:=List.getElem?_eq_none (by rw [h.1];exact List.getElem?_eq_none_iff.1 e)
  rw [this]
 | some r=>
  obtain ⟨r',h1,h2⟩:=h.2 i r e
  rw [h1]
  simp [h2.layer]
theorem ofLay_like {rs rs':List RelX} (h:LikeRs rs rs') (lay:Nat):ofLay rs' lay=ofLay rs lay:=by
 funext k
 unfold ofLay
 rw [layOf_like h]
theorem LikeUs.cs {us us':List RuX} {j:Nat} (h:LikeUs us us' j):us'.map (·.c)=us.map (·.c)∧us'.map (·.gh)=us.map (·.gh):=by
 constructor
 all_goals
  apply List.ext_getElem?
  intro p
  rw [List.getElem?_map,List.getElem?_map]
  cases e:us[p]? with
  | none=>
   have:us'[p]?=none:=List.getElem?_eq_none (by rw [h.1];exact List.getElem?_eq_none_iff.1 e)
   rw [this]
  | some u=>
   obtain ⟨u',h1,h2,h3,_⟩:=h.2 p u e
   rw [h1]
   first | simp [h3];done | simp [show u'.c=u.c from by rw [h2]]
theorem roots_ok {S:ST} {rs:List RelX} {Fs:Nat→List Nat→Prop} {rks:Nat→List Nat→Option Nat} (ha:AllS S rs Fs rks) {fs:List Int} {Xs:Nat→List Nat→Prop} (hf:FndS S rs fs Xs) {us:List RuX} {HS:Nat→List (List Nat→Prop)} (hH:HolS S us HS):RootsOk S (fs++rootsR rs++rootsU us):=fun f hm=>by
 rcases List.mem_append.1 hm with hm | hm
 ·rcases List.mem_append.1 hm with hm | hm
  ·obtain ⟨i,hi,rfl⟩:=List.getElem_of_mem hm
   exact (hf.2 i _ _ (List.getElem?_eq_getElem (by rw [←hf.1];exact hi)) (List.getElem?_eq_getElem hi)).1
  ·obtain ⟨r,hr,hm⟩:=List.mem_flatMap.1 hm
   obtain ⟨i,hi,rfl⟩:=List.getElem_of_mem hr
   have hR:=ha i _ (List.getElem?_eq_getElem hi)
   simp only [List.mem_cons,List.not_mem_nil,or_false] at hm
   rcases hm with rfl | rfl
   ·exact hR.fa.1
   ·exact hR.tu.1
 ·obtain ⟨u,hu,hm⟩:=List.mem_flatMap.1 hm
  obtain ⟨i,hi,rfl⟩:=List.getElem_of_mem hu
  obtain ⟨k,hk,rfl⟩:=List.getElem_of_mem hm
  have h1:=hH i _ (List.getElem?_eq_getElem hi)
  exact (h1.2 k _ _ (List.getElem?_eq_getElem hk) (List.getElem?_eq_getElem (by rw [←h1.1];exact hk))).1
theorem alls_len:∀ n,n≤3→(alls n).length≤512
 | 0,_=>by decide
 | 1,_=>by decide
 | 2,_=>by decide
 | 3,_=>by
  have h:(alls 2).length=64:=by decide
  show ((List.range 8).flatMap fun d=>(alls 2).map (d :: ·)).length≤512
  simp only [List.length_flatMap,List.length_map,h]
  decide
 | n+4,h=>by omega
theorem miss_few (rks:Nat→List Nat→Option Nat):∀ (ns:List Nat) (i:Nat),(∀ n∈ns,n≤3)→missFrom rks ns i≤512 * ns.length
 | [],_,_=>by simp [missFrom]
 | n :: ns,i,h=>by
  have h1:=miss_few rks ns (i+1) (fun m hm=>h m (List.mem_cons_of_mem _ hm))
  have h2:=alls_len n (h n (List.mem_cons_self ..))
  have h3:missOf n (rks i)≤(alls n).length:=List.length_filter_le _ _
  simp only [missFrom,List.length_cons]
  omega
def litsC (cs:List ClauseM) (rk:Nat→List Nat→Option Nat) (p:Nat):List (List Nat→Prop):=match cs[p]? with | some c=>c.lits.map (litH rk) | none=>[]
theorem Begun.hol {w:World} {z:Nat} {S:ST} {rks:Nat→List Nat→Option Nat} {v:Value} {us:List RuX} {cs:List ClauseM} (h:Begun w z S rks v us) (hc:us.map (·.c)=cs):HolS S us (litsC cs rks):=fun i u hi=>by
 subst hc
 have e:litsC (us.map (·.c)) rks i=u.c.lits.map (litH rks):=by unfold litsC;rw [List.getElem?_map,hi];rfl
 rw [e]
 exact (h.hld u (List.mem_of_getElem? hi)).2.2.2.1
end
end Go.Proofs.YtgjomknpjigkhaaGreatDoor
