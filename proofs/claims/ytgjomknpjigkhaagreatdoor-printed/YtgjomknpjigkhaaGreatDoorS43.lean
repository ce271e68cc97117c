import Derived.Test.YtgjomknpjigkhaaGreatDoorS42
namespace Go.Proofs.YtgjomknpjigkhaaGreatDoor
set_option maxRecDepth 100000
set_option maxHeartbeats 4000000
section
open Go.RowKit
def fltOf {α:Type}:Except Flt α→Flt
 | .error f=>f
 | .ok _=>(0,0)
def outOf:Except Flt (List Tn×Mean)→ByteArray
 | .error _=>⟨#[]⟩
 | .ok (toks,_)=>progOut false toks
theorem readS_ok {s:ByteArray} {toks:List Tn} {m:Mean} (h:readS s=.ok (toks,m)):s.size≤1200∧∃ ts l is,scanT s.size s 1=.inl (ts,l)∧toks=withEnd ts l∧itemsG toks.length toks=.ok is∧senseS emptyM is=.ok m:=by
 unfold readS at h
 split at h
 ·cases h
 ·refine ⟨by omega,?_⟩
  split at h
  ·cases h
  ·rename_i ts l hs
   split at h
   ·cases h
   ·rename_i is hi
    split at h
    ·cases h
    ·rename_i me hm
     split at h
     ·cases h
     ·cases h
      exact ⟨ts,l,is,hs,rfl,hi,hm⟩
theorem readS_toks {s:ByteArray} {toks:List Tn} {m:Mean} (h:readS s=.ok (toks,m)):toks.length≤1201∧∀ t∈toks,WfG t.g∨t.g=.fin:=by
 obtain ⟨h0,ts,l,is,hs,rfl,_⟩:=readS_ok h
 have h1:=(scanT_len hs).1
 have h2:=scanT_wf hs
 refine ⟨by simp [withEnd];omega,fun t ht=>?_⟩
 simp only [withEnd,List.mem_append,List.mem_singleton] at ht
 rcases ht with ht | rfl
 ·exact .inl (h2 t ht)
 ·exact .inr rfl
theorem thTo_val {z:Nat} {r:Except Flt (List Tn×Mean)} {e:Ending} {w':World} (h:ThTo z r e w'):∃ p:Value,e=.returned (.tuple #[p,.agg #[.int .i64 (fltOf r).1,.int .i64 (fltOf r).2]])∧((p=.pointer none∧∃ f,r=.error f)∨∃ b,p=.pointer (some ⟨b,0,none⟩)):=by
 cases r with
 | error f=>exact ⟨_,h,.inl ⟨rfl,f,rfl⟩⟩
 | ok q=>
  obtain ⟨toks,m⟩:=q
  obtain ⟨p,vals,rv,cl,tv,rvs,kvs,he,_⟩:=h
  exact ⟨_,he,.inr ⟨p,rfl⟩⟩
theorem check_text {w:World} (s:ByteArray) (hs:s.size≤9223372036854775807):Calls Tryz.prog 15 #[.string s] w fun e w'=>e=.returned (.agg #[.int .i64 (fltOf (readS s)).1,.int .i64 (fltOf (readS s)).2])∧Keeps [] w w':=by
 have kA:=Keeps.alloc [] w (.cells #[.int .i64 0,.int .i64 0] 28)
 have hF:=CellsAt.new w #[.int .i64 0,.int .i64 0] 28
 have hrd:=hide (thread_calls (w:=w.alloc (.cells #[.int .i64 0,.int .i64 0] 28)) s hs)
 generalize hX:(fltOf (readS s)).1=X at *
 generalize hY:(fltOf (readS s)).2=Y at *
 go_enter Tryz.func15,Tryz.ntmps15
 go_wp2_with fail
 refine hrd.out.mono ?_
 rintro e w1 ⟨hto,k1⟩
 obtain ⟨p,rfl,hp⟩:=thTo_val hto
 rw [hX,hY]
 clear hto hrd
 have hF1:=hF.keeps k1 (by simp)
 have hsz:=k1.size
 rw [sizeE_alloc] at hsz
 have kB:=Keeps.alloc [] w1 (.cells #[.int .i64 X,.int .i64 Y] 28)
 obtain ⟨c0,f0,c1,f1,hat,hk⟩:=res2 (hF1.keeps kB (by simp)) (.int .i64 X) (.int .i64 Y)
 have Hat2:=hide hat
 have HK:=hide (((kA.trans k1).trans kB).trans_new hk (by simp))
 clear hk hat kB hF1 kA hF k1 hX hY
 obtain ⟨fs,hfs⟩:=und28
 rcases hp with ⟨rfl,_⟩ | ⟨b,rfl⟩
 ·go_wp2_with fail
  exact bodyPost_ret (v:=.agg #[.int .i64 X,.int .i64 Y]) (ret_cell (p:=2) (ty:=28) (by kernel_rfl) _ Hat2.out hfs size28 rfl) rfl ⟨rfl,HK.out⟩
 ·go_wp2_with fail
  exact bodyPost_ret (v:=.agg #[.int .i64 X,.int .i64 Y]) (ret_cell (p:=2) (ty:=28) (by kernel_rfl) _ Hat2.out hfs size28 rfl) rfl ⟨rfl,HK.out⟩
theorem print_text {w:World} (s:ByteArray) (hs:s.size≤9223372036854775807):Calls Tryz.prog 14 #[.string s] w fun e w'=>e=.returned (.tuple #[.string (outOf (readS s)),.agg #[.int .i64 (fltOf (readS s)).1,.int .i64 (fltOf (readS s)).2]])∧Keeps [] w w':=by
 have kA:=Keeps.alloc [] w (.cells #[.int .i64 0,.int .i64 0] 28)
 have hF:=CellsAt.new w #[.int .i64 0,.int .i64 0] 28
 have hrd:=hide (thread_calls (w:=w.alloc (.cells #[.int .i64 0,.int .i64 0] 28)) s hs)
 rw [sizeE_alloc] at hrd
 obtain ⟨fs,hfs⟩:=und28
 cases hR:readS s with
 | error f=>
  rw [hR] at hrd
  go_enter Tryz.func14,Tryz.ntmps14
  go_wp2_with fail
  refine hrd.out.mono ?_
  rintro e w1 ⟨rfl,k1⟩
  have hF1:=hF.keeps k1 (by simp)
  have hsz:=k1.size
  rw [sizeE_alloc] at hsz
  have kB:=Keeps.alloc [] w1 (.cells #[.int .i64 f.1,.int .i64 f.2] 28)
  have hG:=CellsAt.new w1 #[.int .i64 f.1,.int .i64 f.2] 28
  obtain ⟨c0,f0,c1,f1,hat,hk⟩:=res2 (hF1.keeps kB (by simp)) (.int .i64 f.1) (.int .i64 f.2)
  have HK:=hide (((kA.trans k1).trans kB).trans_new hk (by simp))
  have Hat:=hide hat
  clear hrd k1 kA kB hF hF1 hat hk hG
  go_wp2_with fail
  go_region_law (fail)
  all_goals
   go_wp2_with fail
   exact bodyPost_ret (ret_two (t:=2) (p:=3) (ty:=28) (by kernel_rfl) _ (Hat.out.keeps (Keeps.drew [] _) (by simp)) hfs size28 rfl) rfl ⟨rfl,HK.out.trans (Keeps.drew [] _)⟩
 | ok q=>
  obtain ⟨toks,m⟩:=q
  rw [hR] at hrd
  have htk:=readS_toks hR
  go_enter Tryz.func14,Tryz.ntmps14
  go_wp2_with fail
  refine hrd.out.mono ?_
  rintro e w1 ⟨⟨p,vals,rv,cl,tv,rvs,kvs,rfl,hP⟩,k1⟩
  have hF1:=hF.keeps k1 (by simp)
  have hsz:=k1.size
  rw [sizeE_alloc] at hsz
  have kB:=Keeps.alloc [] w1 (.cells #[.int .i64 0,.int .i64 0] 28)
  have hG:=CellsAt.new w1 #[.int .i64 0,.int .i64 0] 28
  obtain ⟨ay,cy,hy⟩:=ownE_len hP.toks
  subst hy
  have hpr:=hide (fun (W:World) (k:Keeps [] w1 W)=>print36_calls toks (hP.cells.keeps k (by simp)) (ownsRow_kept hP.toks k (by simp)) (by omega) htk.2)
  obtain ⟨c0,f0,c1,f1,hat,hk⟩:=res2 (hF1.keeps kB (by simp)) (.int .i64 0) (.int .i64 0)
  have hF2:=hide (hF1.keeps kB (by simp))
  have HG:=hide hG
  have HK:=hide ((kA.trans k1).trans kB)
  have HkB:=hide kB
  clear hrd k1 kA kB hF hF1 hat hk hG hP htk
  generalize hO:progOut false toks=O at *
  go_wp2_with fail
  go_region_law (refine step_callA rfl 36 _ _ rfl _ Tryz.func36 (by kernel_rfl) (by kernel_rfl) [.pointer (some ⟨p,0,none⟩)] rfl ?_
                 refine (hpr.out _ (HkB.out.trans (Keeps.drew _ _))).mono ?_
                 rintro e w5 ⟨rfl,k5⟩
                 have q0:=(HG.out.keeps (Keeps.drew [] _) (by simp)).keeps k5 (by simp)
                 have q1:=(hF2.out.keeps (Keeps.drew [] _) (by simp)).keeps k5 (by simp)
                 have q2:=q0.cell 0
                 have q3:=q0.cell 1
                 obtain ⟨r0,r1,r2,r3,r4,r5⟩:=res2 q1 (.int .i64 0) (.int .i64 0))
  all_goals
   go_wp2_with fail
   exact bodyPost_ret (ret_two (t:=2) (p:=3) (ty:=28) (by kernel_rfl) _ r4 hfs size28 rfl) rfl ⟨by rw [←hO];rfl,((HK.out.trans (Keeps.drew [] _)).trans k5).trans_new r5 (by simp)⟩
end
section
open Go.RowKit
theorem numOf_pos {g:Sg} (h:WfG g∨g=.fin):0≤numOf g:=by
 cases g with
 | int s=>
  rcases h with h | h
  ·exact (valTo_range h.1 (Nat.le_refl _) h.2.2).1
  ·cases h
 | _=>exact Int.le_refl 0
theorem termS_fine {m:Mean} (hok:MeanOk m) {sc sc':Scope} {t:Tn} {d:Nat} {x:TermM} (hs:sc.length≤4) (hn:0≤numOf t.g) (h:termS m sc t d=.ok (x,sc')):TmOk x∧sc'.length≤4:=by
 unfold termS at h
 split at h
 ·split at h
  ·rename_i p hp
   split at h
   ·cases h
   ·cases h
    have:=placeIn_lt hp
    exact ⟨⟨by simp,by simp;omega,fun _=>by simp;omega⟩,hs⟩
  ·split at h
   ·cases h
   ·cases h
    exact ⟨⟨by simp,by simp;omega,fun _=>by simp;omega⟩,by simp;omega⟩
 ·split at h
  ·cases h
  ·cases h
   have:=size_le hok d
   exact ⟨⟨by simpa using hn,by simp;omega,fun q=>by simp at q⟩,hs⟩
theorem termsS_fine {m:Mean} (hok:MeanOk m):∀ {ts:List Tn} {ds:List Nat} {sc sc':Scope} {xs:List TermM},sc.length≤4→(∀ t∈ts,0≤numOf t.g)→ts.length=ds.length→termsS m sc ts ds=.ok (xs,sc')→xs.length=ts.length∧(∀ x∈xs,TmOk x)∧sc'.length≤4
 | [],[],sc,sc',xs,hs,_,_,h=>by simp only [termsS] at h;cases h;exact ⟨rfl,by simp,hs⟩
 | [],d :: ds,sc,sc',xs,hs,_,hl,h=>by simp at hl
 | t :: ts,[],sc,sc',xs,hs,_,hl,h=>by simp at hl
 | t :: ts,d :: ds,sc,sc',xs,hs,hn,hl,h=>by
  simp only [termsS] at h
  split at h
  ·cases h
  ·rename_i x sc1 h1
   split at h
   ·cases h
   ·rename_i xs' sc2 h2
    cases h
    obtain ⟨a,b⟩:=termS_fine hok hs (hn t (by simp)) h1
    obtain ⟨c,d',e⟩:=termsS_fine hok b (fun t ht=>hn t (by simp [ht])) (by simpa using hl) h2
    exact ⟨by simp [c],fun y hy=>by rcases List.mem_cons.1 hy with rfl | hy;exact a;exact d' y hy,e⟩
theorem atomS_fine {m:Mean} (hok:MeanOk m) {sc sc':Scope} {a:AtomI} {x:AtomM} (hs:sc.length≤4) (hn:∀ t∈a.terms,0≤numOf t.g) (h:atomS m sc a=.ok (x,sc')):AtFine m x∧sc'.length≤4:=by
 unfold atomS at h
 split at h
 ·cases h
 ·rename_i r hr
  split at h
  ·cases h
  ·rename_i hl
   split at h
   ·cases h
   ·rename_i xs sc1 h1
    cases h
    have hl':a.terms.length=(m.cols r).length:=by simpa using hl
    obtain ⟨b,c,d⟩:=termsS_fine hok hs hn hl' h1
    exact ⟨⟨placeIn_lt hr,by show xs.length=_;rw [b,hl'],c⟩,d⟩
theorem litsS_fine {m:Mean} (hok:MeanOk m):∀ {ls:List LitI} {k:Nat} {sc sc':Scope} {xs:List (AtomM×Bool)},sc.length≤4→(∀ l∈ls,∀ t∈l.atom.terms,0≤numOf t.g)→litsS m sc k ls=.ok (xs,sc')→∀ x∈xs,AtFine m x.1
 | [],k,sc,sc',xs,_,_,h=>by simp only [litsS] at h;cases h;simp
 | l :: ls,k,sc,sc',xs,hs,hn,h=>by
  simp only [litsS] at h
  split at h
  ·cases h
  ·split at h
   ·cases h
   ·rename_i x sc1 h1
    split at h
    ·cases h
    ·rename_i xs' sc2 h2
     cases h
     obtain ⟨a,b⟩:=atomS_fine hok hs (hn l (by simp)) h1
     intro y hy
     rcases List.mem_cons.1 hy with rfl | hy
     ·exact a
     ·exact litsS_fine hok b (fun l hl=>hn l (by simp [hl])) h2 y hy
def ItemNum:ItemI→Prop
 | .dom _ _=>True
 | .rel _ cs=>cs≠[]
 | .clause a ls=>(∀ t∈a.terms,0≤numOf t.g)∧∀ l∈ls,∀ t∈l.atom.terms,0≤numOf t.g
theorem AtFine.more {m m':Mean} {a:AtomM} (h:AtFine m a) (hr:∀ (i:Nat),i<m.rels.length→m'.rels[i]?=m.rels[i]?) (hl:m.rels.length≤m'.rels.length):AtFine m' a:=
 ⟨Nat.lt_of_lt_of_le h.rel hl,by rw [h.len];unfold Mean.cols;rw [hr _ h.rel],h.tms⟩
theorem addItem_fine {m m':Mean} {i:ItemI} (hm:MeanFine m) (hi:ItemNum i) (h:addItem m i=.ok m'):MeanFine m':=by
 have hok:=addItem_ok hm.ok h
 cases i with
 | dom n z=>
  simp only [addItem,addDom] at h
  split at h
  ·cases h
  ·split at h
   ·cases h
   ·split at h
    ·cases h
    ·cases h
     exact ⟨hok,hm.cols,fun c hc=>(hm.heads c hc).more (fun _ _=>rfl) (Nat.le_refl _),fun c hc l hl=>(hm.lits c hc l hl).more (fun _ _=>rfl) (Nat.le_refl _)⟩
 | rel n cs=>
  simp only [addItem,addRel] at h
  split at h
  ·cases h
  ·split at h
   ·cases h
   ·split at h
    ·cases h
    ·rename_i ds hds
     cases h
     have hlen:=(colsS_ok (by omega) hds).2.1
     have hr:∀ (i:Nat),i<m.rels.length→(m.rels++[(txt n.g,ds)])[i]?=m.rels[i]?:=fun i hi=>List.getElem?_append_left hi
     refine ⟨hok,fun r hr=>?_,fun c hc=>(hm.heads c hc).more hr (by simp),fun c hc l hl=>(hm.lits c hc l hl).more hr (by simp)⟩
     rcases List.mem_append.1 hr with hr | hr
     ·exact hm.cols r hr
     ·simp only [List.mem_singleton] at hr
      subst hr
      show 0<ds.length
      rw [hlen]
      exact List.length_pos_iff.2 hi
 | clause a ls=>
  simp only [addItem,addClause] at h
  split at h
  ·cases h
  ·split at h
   ·cases h
   ·rename_i x sc h1
    split at h
    ·cases h
    ·rename_i xs sc2 h2
     cases h
     obtain ⟨b,c⟩:=atomS_fine hm.ok (by simp) hi.1 h1
     have d:=litsS_fine hm.ok c hi.2 h2
     refine ⟨hok,hm.cols,fun c hc=>?_,fun c hc l hl=>?_⟩
     ·rcases List.mem_append.1 hc with hc | hc
      ·exact (hm.heads c hc).more (fun _ _=>rfl) (Nat.le_refl _)
      ·simp only [List.mem_singleton] at hc
       subst hc
       exact b.more (fun _ _=>rfl) (Nat.le_refl _)
     ·rcases List.mem_append.1 hc with hc | hc
      ·exact (hm.lits c hc l hl).more (fun _ _=>rfl) (Nat.le_refl _)
      ·simp only [List.mem_singleton] at hc
       subst hc
       exact (d l hl).more (fun _ _=>rfl) (Nat.le_refl _)
theorem senseS_fine:∀ {is:List ItemI} {m m':Mean},MeanFine m→(∀ i∈is,ItemNum i)→senseS m is=.ok m'→MeanFine m'
 | [],m,m',hm,_,h=>by simp only [senseS] at h;cases h;exact hm
 | i :: is,m,m',hm,hi,h=>by
  simp only [senseS] at h
  split at h
  ·cases h
  ·rename_i m1 h1
   exact senseS_fine (addItem_fine hm (hi i (by simp)) h1) (fun j hj=>hi j (by simp [hj])) h
theorem listG_ne {p:Sg→Bool} {ts us r:List Tn} (h:listG p ts=.ok (r,us)):r≠[]:=by
 unfold listG at h
 split at h
 ·cases h
 ·split at h
  ·cases h
  ·split at h
   ·cases h
   ·cases h;simp
theorem itemG_rel {ts us:List Tn} {n:Tn} {cs:List Tn} (h:itemG ts=.ok (.rel n cs,us)):cs≠[]:=by
 unfold itemG at h
 split at h
 ·split at h
  ·cases h
  ·split at h
   ·cases h
   ·split at h
    ·cases h
    ·cases h
 ·split at h
  ·split at h
   ·cases h
   ·split at h
    ·cases h
    ·rename_i c vs hc
     split at h
     ·cases h
     ·cases h;exact listG_ne hc
  ·split at h
   ·cases h
   ·split at h
    ·cases h
    ·cases h
theorem itemsG_rel:∀ {k:Nat} {ts:List Tn} {is:List ItemI},itemsG k ts=.ok is→∀ n cs,ItemI.rel n cs∈is→cs≠[]
 | 0,ts,is,h,n,cs,hm=>by simp only [itemsG] at h;cases h;cases hm
 | k+1,ts,is,h,n,cs,hm=>by
  simp only [itemsG] at h
  split at h
  ·cases h;cases hm
  ·split at h
   ·cases h
   ·rename_i i us hi
    split at h
    ·cases h
    ·rename_i r hr
     cases h
     rcases List.mem_cons.1 hm with e | hm
     ·subst e;exact itemG_rel hi
     ·exact itemsG_rel hr n cs hm
theorem readS_fine {s:ByteArray} {toks:List Tn} {m:Mean} (h:readS s=.ok (toks,m)):MeanFine m:=by
 obtain ⟨_,ts,l,is,h1,h2,h3,h4⟩:=readS_ok h
 have hw:=(readS_toks h).2
 have hin:=(items_in (Nat.le_refl _) (by rw [h2];exact scanT_ended h1) h3).1
 refine senseS_fine ⟨MeanOk.empty,fun r hr=>by simp at hr,fun c hc=>by simp at hc,fun c hc=>by simp at hc⟩ (fun i hi=>?_) h4
 have:=hin i hi
 cases i with
 | dom n z=>trivial
 | rel n cs=>exact itemsG_rel h3 n cs hi
 | clause a ls=>exact ⟨fun t ht=>numOf_pos (hw t (this.1.2.2.1 t ht).2),fun l hl t ht=>numOf_pos (hw t ((this.2.1 l hl).2.2.1 t ht).2)⟩
end
section
open Go.RowKit Go.Shelf
attribute [local go_sem] Oper.semAt_some
structure Made (w':World) (z eb:Nat) (m:Mean) (bb:Nat) (B:SB) (S:ST) (gr cr:Nat) (rs:List RelX) (tv mv:Value) (ka:Option Addr) (ks:List CluX) (kc:Nat) (vals:List Nat) (rk:Nat→List Nat→Option Nat):Prop where
 cell:CellsAt w' eb #[.pointer (some ⟨bb,0,none⟩)]
 low:z≤eb
 out:eb∉bb :: ftp B gr rs
 eng:EngIs w' z bb B S gr cr rs tv mv ka ks kc m vals (factsOf m.clauses) rk
 steps:LaySteps rs (factsOf m.clauses) ks 0 (fun _ _=>none) rs.length rk
 next:S.next≤300000000000000
 lay:LayI m.clauses m.rels.length vals
 stable:StableG layG m.clauses vals
theorem EngIs.low0 {w:World} {z z' bb:Nat} {B:SB} {S:ST} {gr cr:Nat} {rs:List RelX} {tv mv:Value} {ka:Option Addr} {ks:List CluX} {kc:Nat} {m:Mean} {vals:List Nat} {Fs:Nat→List Nat→Prop} {rk:Nat→List Nat→Option Nat} (h:EngIs w z bb B S gr cr rs tv mv ka ks kc m vals Fs rk) (hz:z'≤z):EngIs w z' bb B S gr cr rs tv mv ka ks kc m vals Fs rk:=
 ⟨h.bse,h.all,h.kls.sub (fun j hj=>(List.mem_append.1 hj).elim (fun q=>List.mem_append.2 (.inl (by simp at q ⊢;omega))) (fun q=>List.mem_append.2 (.inr q))),h.ksc,⟨ownsRow_base h.set.row hz,h.set.rowA,h.set.map.imp id (fun ⟨r,a,b,c,d⟩=>⟨r,a,b,by omega,d⟩)⟩,fun j hj=>Nat.le_trans hz (h.low j hj),h.len,fun i r nm cols hi hc=>by
  obtain ⟨a,b,g,c,d,e,f⟩:=h.rels i r nm cols hi hc
  exact ⟨a,b,g,c,d,Nat.le_trans hz e,f⟩⟩
theorem EngIs.off {w w':World} {z bb:Nat} {B:SB} {S:ST} {gr cr:Nat} {rs:List RelX} {tv mv:Value} {ka:Option Addr} {ks:List CluX} {kc:Nat} {m:Mean} {vals:List Nat} {Fs:Nat→List Nat→Prop} {rk:Nat→List Nat→Option Nat} {T:List Nat} (h:EngIs w z bb B S gr cr rs tv mv ka ks kc m vals Fs rk) (k:Keeps T w w') (h1:∀ j∈bb :: ftp B gr rs,j∉T) (h2:∀ j∈T,j<z):EngIs w' z bb B S gr cr rs tv mv ka ks kc m vals Fs rk:=
 ⟨h.bse.other k (h1 bb (by simp)) (h1 gr (by simp [ftp])) (fun r hr=>h1 _ (by simp only [ftp,List.mem_cons,List.mem_append,List.mem_map];exact .inr (.inr (.inl ⟨r,hr,rfl⟩)))) (h.bse.eng.keeps k (fun i hi=>h1 i (List.mem_cons_of_mem _ (own_ftp hi)))),h.all,h.kls.keeps k (fun j hj=>.inl (List.mem_append.2 (.inl (by simpa using h2 j hj)))),h.ksc,h.set.keeps k (fun j hj=>.inr (.inl (h2 j hj))),h.low,h.len,fun i r nm cols hi hc=>by
  obtain ⟨a,b,g,c,d,e,f⟩:=h.rels i r nm cols hi hc
  exact ⟨a,b,g,c,d,e,f.keepsE k (fun hm=>by have:=h2 g hm;omega)⟩⟩
theorem Made.keeps0 {w w':World} {z eb:Nat} {m:Mean} {bb:Nat} {B:SB} {S:ST} {gr cr:Nat} {rs:List RelX} {tv mv:Value} {ka:Option Addr} {ks:List CluX} {kc:Nat} {vals:List Nat} {rk:Nat→List Nat→Option Nat} (h:Made w z eb m bb B S gr cr rs tv mv ka ks kc vals rk) (k:Keeps [] w w'):Made w' z eb m bb B S gr cr rs tv mv ka ks kc vals rk:=⟨h.cell.keeps k (by simp),h.low,h.out,h.eng.keeps0 k,h.steps,h.next,h.lay,h.stable⟩
def LoadTo (w:World) (r:Except Flt (List Tn×Mean)) (e:Ending) (w':World):Prop:=match r with
 | .error f=>e=.returned (.tuple #[.pointer none,.agg #[.int .i64 f.1,.int .i64 f.2]])
 | .ok (_,m)=>∃ eb bb B S gr cr rs tv mv ka ks kc vals rk,e=.returned (.tuple #[.pointer (some ⟨eb,0,none⟩),.agg #[.int .i64 0,.int .i64 0]])∧Made w' w.heap.size eb m bb B S gr cr rs tv mv ka ks kc vals rk
theorem load_text {w:World} (s:ByteArray) (hs:s.size≤9223372036854775807) (hne:∀ toks m,readS s=.ok (toks,m)→0<m.rels.length):Calls Tryz.prog 16 #[.string s] w fun e w'=>LoadTo w (readS s) e w'∧Keeps [] w w':=by
 have kA:=Keeps.alloc [] w (.cells #[.int .i64 0,.int .i64 0] 28)
 have hF:=CellsAt.new w #[.int .i64 0,.int .i64 0] 28
 have hrd:=hide (thread_calls (w:=w.alloc (.cells #[.int .i64 0,.int .i64 0] 28)) s hs)
 rw [sizeE_alloc] at hrd
 obtain ⟨fs,hfs⟩:=und28
 cases hR:readS s with
 | error f=>
  rw [hR] at hrd
  clear hne hR
  go_enter Tryz.func16,Tryz.ntmps16
  go_wp2_with fail
  refine hrd.out.mono ?_
  rintro e w1 ⟨rfl,k1⟩
  have hF1:=hF.keeps k1 (by simp)
  have hsz:=k1.size
  rw [sizeE_alloc] at hsz
  have kB:=Keeps.alloc [] w1 (.cells #[.int .i64 f.1,.int .i64 f.2] 28)
  have hG:=CellsAt.new w1 #[.int .i64 f.1,.int .i64 f.2] 28
  obtain ⟨c0,f0,c1,f1,hat,hk⟩:=res2 (hF1.keeps kB (by simp)) (.int .i64 f.1) (.int .i64 f.2)
  have HK:=hide (((kA.trans k1).trans kB).trans_new hk (by simp))
  have Hat:=hide hat
  clear hrd k1 kA kB hF hF1 hat hk hG
  go_wp2_with fail
  go_region_law (fail)
  all_goals
   go_wp2_with fail
   exact bodyPost_ret (ret_two (t:=2) (p:=3) (ty:=28) (by kernel_rfl) _ (Hat.out.keeps (Keeps.drew [] _) (by simp)) hfs size28 rfl) rfl ⟨rfl,HK.out.trans (Keeps.drew [] _)⟩
 | ok q=>
  obtain ⟨toks,m⟩:=q
  rw [hR] at hrd
  have hfine:=readS_fine hR
  have h0:=hne toks m hR
  clear hR hne
  go_enter Tryz.func16,Tryz.ntmps16
  go_wp2_with fail
  refine hrd.out.mono ?_
  rintro e w1 ⟨⟨p,vals,rv,cl,tv,rvs,kvs,rfl,hP⟩,k1⟩
  have hF1:=hF.keeps k1 (by simp)
  have hsz:=k1.size
  rw [sizeE_alloc] at hsz
  have kB:=Keeps.alloc [] w1 (.cells #[.int .i64 0,.int .i64 0] 28)
  have hG:=CellsAt.new w1 #[.int .i64 0,.int .i64 0] 28
  have hwk:=hide (fun (W:World) (k:Keeps [] w1 W)=>work37_calls (hP.keeps k (by simp)) hfine h0)
  have hF2:=hide (hF1.keeps kB (by simp))
  have HG:=hide hG
  have HK:=hide ((kA.trans k1).trans kB)
  have HkB:=hide kB
  have HP:=hide (And.intro hP.lay hP.stable)
  clear hrd k1 kA kB hF hF1 hG hP hfine h0
  go_wp2_with fail
  go_region_law (refine step_callA rfl 37 _ _ rfl _ Tryz.func37 (by kernel_rfl) (by kernel_rfl) [.pointer (some ⟨p,0,none⟩)] rfl ?_
                 refine (hwk.out _ (HkB.out.trans (Keeps.drew _ _))).mono ?_
                 rintro e w5 ⟨bb,B,S,gr,cr,rs,tv5,mv5,ka,ks,kc,rk,rfl,hE5,hs5,hn5,k5⟩
                 have kE:=Keeps.alloc [] w5 (.cells #[.pointer (some ⟨bb,0,none⟩)] 89)
                 have q0:=(HG.out.keeps (Keeps.drew [] _) (by simp)).keeps k5 (by simp)
                 have q1:=(hF2.out.keeps (Keeps.drew [] _) (by simp)).keeps k5 (by simp)
                 have q2:=q0.cell 0
                 have q3:=q0.cell 1
                 have r2:=(q0.keeps kE (by simp)).cell 0
                 have r3:=(q0.keeps kE (by simp)).cell 1
                 have hEb:=CellsAt.new w5 #[.pointer (some ⟨bb,0,none⟩)] 89
                 obtain ⟨s0,s1,s2,s3,s4,s5⟩:=res2 (q1.keeps kE (by simp)) (.int .i64 0) (.int .i64 0)
                 have hlt:=ftp_lt hE5.bse)
  all_goals
   go_wp2_with fail
   have k15:=(HK.out.trans (Keeps.drew [] _)).trans k5
   have hbig:w.heap.size+1≤w1.heap.size:=by omega
   have hz5:w1.heap.size+1≤w5.heap.size:=by have:=k5.size;rw [show ((w1.alloc (.cells #[.int .i64 0,.int .i64 0] 28)).drew).heap.size=(w1.alloc (.cells #[.int .i64 0,.int .i64 0] 28)).heap.size from rfl,sizeE_alloc] at this;exact this
   have hno:w.heap.size∉bb :: ftp B gr rs:=fun hm=>by have:=hE5.low _ hm;omega
   have kS:=s5.mono (T':=[w.heap.size]) (by simp)
   have hE6:=(hE5.keeps0 kE).off (T:=[w.heap.size]) kS (fun j hj hm=>hno (by simp only [List.mem_singleton] at hm;rw [←hm];exact hj)) (fun j hj=>by simp only [List.mem_singleton] at hj;omega)
   refine bodyPost_ret (ret_two (t:=2) (p:=3) (ty:=28) (by kernel_rfl) _ s4 hfs size28 rfl) rfl ⟨?_,(k15.trans kE).trans_new s5 (by simp)⟩
   exact ⟨w5.heap.size,bb,B,S,gr,cr,rs,tv5,mv5,ka,ks,kc,vals,rk,rfl,⟨hEb.keeps s5 (by simp;omega),k15.size,fun hm=>by have:=hlt _ hm;omega,hE6.low0 (by omega),hs5,hn5,HP.out.1,HP.out.2⟩⟩
end
end Go.Proofs.YtgjomknpjigkhaaGreatDoor
