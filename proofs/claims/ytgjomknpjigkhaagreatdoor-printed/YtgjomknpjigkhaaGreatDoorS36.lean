import Derived.Test.YtgjomknpjigkhaaGreatDoorS29
namespace Go.Proofs.YtgjomknpjigkhaaGreatDoor
set_option maxRecDepth 100000
set_option maxHeartbeats 4000000
section
def AtomIn (ts:List Tn) (a:AtomI):Prop:=isNameG a.name.g=true∧a.name∈ts∧(∀ t∈a.terms,isTermG t.g=true∧t∈ts)∧a.terms.length≤ts.length
def ItemIn (ts:List Tn):ItemI→Prop
 | .dom n z=>(isNameG n.g=true∧n∈ts)∧isIntG z.g=true∧z∈ts
 | .rel n cs=>(isNameG n.g=true∧n∈ts)∧(∀ c∈cs,isNameG c.g=true∧c∈ts)∧cs.length≤ts.length
 | .clause a ls=>AtomIn ts a∧(∀ l∈ls,AtomIn ts l.atom)∧ls.length≤ts.length
theorem AtomIn.mono {ts us:List Tn} {a:AtomI} (h:AtomIn us a) (g:us <:+ ts):AtomIn ts a:=by
 have hs:=g.subset
 exact ⟨h.1,hs h.2.1,fun t ht=>⟨(h.2.2.1 t ht).1,hs (h.2.2.1 t ht).2⟩,Nat.le_trans h.2.2.2 g.length_le⟩
theorem ItemIn.mono {ts us:List Tn} {i:ItemI} (h:ItemIn us i) (g:us <:+ ts):ItemIn ts i:=by
 have hs:=g.subset
 cases i with
 | dom n z=>exact ⟨⟨h.1.1,hs h.1.2⟩,h.2.1,hs h.2.2⟩
 | rel n cs=>exact ⟨⟨h.1.1,hs h.1.2⟩,fun c hc=>⟨(h.2.1 c hc).1,hs (h.2.1 c hc).2⟩,Nat.le_trans h.2.2 g.length_le⟩
 | clause a ls=>exact ⟨h.1.mono g,fun l hl=>(h.2.1 l hl).mono g,Nat.le_trans h.2.2 g.length_le⟩
theorem rest_len {p:Sg→Bool} (hp:NoFin p) {k:Nat} {ts us r:List Tn} (hk:ts.length≤k) (e:Ended ts) (h:restG p k ts=.ok (r,us)):r.length+us.length<ts.length:=by
 induction k generalizing ts us r with
 | zero=>
  obtain ⟨t,us,rfl⟩:=e.cons
  simp at hk
 | succ k ih=>
  simp only [restG] at h
  split at h
  ·rename_i hc
   have g1:=sees_goes comma_noFin e hc
   split at h
   ·cases h
   ·rename_i t us' ht
    have g2:=(takeG_goes hp g1.2 ht).1
    split at h
    ·cases h
    ·rename_i r' vs hr
     cases h
     have:=ih (by have:=g1.1;have:=g2.1;omega) g2.2 hr
     have:=g1.1
     have:=g2.1
     rw [List.length_cons]
     omega
  ·split at h
   ·cases h
   ·rename_i t us' ht
    cases h
    have:=(takeG_goes rp_noFin e ht).1.1
    simpa using this
theorem list_len {p:Sg→Bool} (hp:NoFin p) {ts us r:List Tn} (e:Ended ts) (h:listG p ts=.ok (r,us)):r.length+us.length<ts.length:=by
 unfold listG at h
 split at h
 ·cases h
 ·rename_i t1 us1 h1
  have g1:=(takeG_goes lp_noFin e h1).1
  split at h
  ·cases h
  ·rename_i t2 us2 h2
   have g2:=(takeG_goes hp g1.2 h2).1
   split at h
   ·cases h
   ·rename_i r3 us3 h3
    cases h
    have:=rest_len hp (Nat.le_refl _) g2.2 h3
    have:=g1.1
    have:=g2.1
    rw [List.length_cons]
    omega
theorem atom_in {ts us:List Tn} {a:AtomI} (e:Ended ts) (h:atomG ts=.ok (a,us)):AtomIn ts a:=by
 obtain ⟨h1,_,h3,h4⟩:=atom_are e h
 refine ⟨h3,h4,h1,?_⟩
 unfold atomG at h
 split at h
 ·cases h
 ·rename_i t1 us1 hh
  have g1:=(takeG_goes name_noFin e hh).1
  split at h
  ·cases h
  ·rename_i r3 us3 h3
   cases h
   have:=list_len term_noFin g1.2 h3
   have:=g1.1
   show r3.length≤_
   omega
theorem lit_in {ts us:List Tn} {l:LitI} (e:Ended ts) (h:litG ts=.ok (l,us)):AtomIn ts l.atom:=by
 unfold litG at h
 split at h
 ·rename_i hc
  have g1:=sees_goes bang_noFin e hc
  split at h
  ·cases h
  ·rename_i r3 us3 h3
   cases h
   exact (atom_in g1.2 h3).mono g1.3
 ·split at h
  ·cases h
  ·rename_i r3 us3 h3
   cases h
   exact atom_in e h3
theorem lits_in {k:Nat} {ts us:List Tn} {r:List LitI} (hk:ts.length≤k) (e:Ended ts) (h:litsG k ts=.ok (r,us)):(∀ l∈r,AtomIn ts l.atom)∧r.length+us.length<ts.length:=by
 induction k generalizing ts us r with
 | zero=>
  obtain ⟨t,us,rfl⟩:=e.cons
  simp at hk
 | succ k ih=>
  simp only [litsG] at h
  split at h
  ·rename_i hc
   have g1:=sees_goes comma_noFin e hc
   split at h
   ·cases h
   ·rename_i t us' ht
    have g2:=litG_goes g1.2 ht
    split at h
    ·cases h
    ·rename_i r' vs hr
     cases h
     obtain ⟨h1,h2⟩:=ih (by have:=g1.1;have:=g2.1;omega) g2.2 hr
     refine ⟨fun l hl=>?_,?_⟩
     ·rcases List.mem_cons.1 hl with rfl | hl
      ·exact (lit_in g1.2 ht).mono g1.3
      ·exact (h1 l hl).mono (g2.3.trans g1.3)
     ·have:=g1.1
      have:=g2.1
      rw [List.length_cons]
      omega
  ·split at h
   ·cases h
   ·rename_i t us' ht
    cases h
    have:=(takeG_goes dot_noFin e ht).1.1
    exact ⟨fun l hl=>(by cases hl),by simpa using this⟩
theorem body_in {ts us:List Tn} {r:List LitI} (e:Ended ts) (h:bodyG ts=.ok (r,us)):(∀ l∈r,AtomIn ts l.atom)∧r.length+us.length<ts.length:=by
 unfold bodyG at h
 split at h
 ·rename_i hc
  have g1:=sees_goes arrow_noFin e hc
  split at h
  ·cases h
  ·rename_i t us' ht
   have g2:=litG_goes g1.2 ht
   split at h
   ·cases h
   ·rename_i r' vs hr
    cases h
    obtain ⟨h1,h2⟩:=lits_in (Nat.le_refl _) g2.2 hr
    refine ⟨fun l hl=>?_,?_⟩
    ·rcases List.mem_cons.1 hl with rfl | hl
     ·exact (lit_in g1.2 ht).mono g1.3
     ·exact (h1 l hl).mono (g2.3.trans g1.3)
    ·have:=g1.1
     have:=g2.1
     rw [List.length_cons]
     omega
 ·split at h
  ·cases h
  ·rename_i t us' ht
   cases h
   have:=(takeG_goes dot_noFin e ht).1.1
   exact ⟨fun l hl=>(by cases hl),by simpa using this⟩
theorem item_in {ts us:List Tn} {i:ItemI} (e:Ended ts) (h:itemG ts=.ok (i,us)):ItemIn ts i:=by
 unfold itemG at h
 split at h
 ·rename_i hc
  have g1:=sees_goes dom_noFin e hc
  split at h
  ·cases h
  ·rename_i t2 us2 h2
   obtain ⟨g2,e2,p2⟩:=takeG_goes name_noFin g1.2 h2
   split at h
   ·cases h
   ·rename_i t3 us3 h3
    obtain ⟨g3,e3,p3⟩:=takeG_goes int_noFin g2.2 h3
    split at h
    ·cases h
    ·cases h
     exact ⟨⟨p2,g1.3.subset (by rw [e2];simp)⟩,p3,(g2.3.trans g1.3).subset (by rw [e3];simp)⟩
 ·split at h
  ·rename_i hc
   have g1:=sees_goes rel_noFin e hc
   split at h
   ·cases h
   ·rename_i t2 us2 h2
    obtain ⟨g2,e2,p2⟩:=takeG_goes name_noFin g1.2 h2
    split at h
    ·cases h
    ·rename_i t3 us3 h3
     have g3:=list_are name_noFin g2.2 h3
     have l3:=list_len name_noFin g2.2 h3
     split at h
     ·cases h
     ·cases h
      refine ⟨⟨p2,g1.3.subset (by rw [e2];simp)⟩,fun c hc=>⟨(g3.1 c hc).1,(g2.3.trans g1.3).subset (g3.1 c hc).2⟩,?_⟩
      have:=g1.1
      have:=g2.1
      omega
  ·split at h
   ·cases h
   ·rename_i a us1 h1
    have g1:=atomG_goes e h1
    split at h
    ·cases h
    ·rename_i b us2 h2
     cases h
     obtain ⟨q1,q2⟩:=body_in g1.2 h2
     refine ⟨atom_in e h1,fun l hl=>(q1 l hl).mono g1.3,?_⟩
     have:=g1.1
     omega
theorem items_in {k:Nat} {ts:List Tn} {is:List ItemI} (hk:ts.length≤k) (e:Ended ts) (h:itemsG k ts=.ok is):(∀ i∈is,ItemIn ts i)∧is.length≤ts.length:=by
 induction k generalizing ts is with
 | zero=>
  obtain ⟨t,us,rfl⟩:=e.cons
  simp at hk
 | succ k ih=>
  simp only [itemsG] at h
  split at h
  ·cases h
   exact ⟨fun i hi=>(by cases hi),by simp⟩
  ·split at h
   ·cases h
   ·rename_i i us hi
    have g1:=itemG_goes e hi
    split at h
    ·cases h
    ·rename_i r hr
     cases h
     obtain ⟨h1,h2⟩:=ih (by have:=g1.1;omega) g1.2 hr
     refine ⟨fun j hj=>?_,?_⟩
     ·rcases List.mem_cons.1 hj with rfl | hj
      ·exact item_in e hi
      ·exact (h1 j hj).mono g1.3
     ·have:=g1.1
      rw [List.length_cons]
      omega
theorem senseS_names {m m':Mean} {is:List ItemI} {p:ByteArray→Prop} (hm:∀ r∈m.rels,p r.1) (hi:∀ i∈is,∀ n cs,i=.rel n cs→p (txt n.g)) (h:senseS m is=.ok m'):∀ r∈m'.rels,p r.1:=by
 induction is generalizing m with
 | nil=>cases h;exact hm
 | cons i is ih=>
  simp only [senseS] at h
  split at h
  ·cases h
  ·rename_i m1 h1
   refine ih ?_ (fun j hj=>hi j (by simp [hj])) h
   cases i with
   | dom n z=>
    simp only [addItem,addDom] at h1
    split at h1
    ·cases h1
    ·split at h1
     ·cases h1
     ·split at h1
      ·cases h1
      ·cases h1;exact hm
   | rel n cs=>
    simp only [addItem,addRel] at h1
    split at h1
    ·cases h1
    ·split at h1
     ·cases h1
     ·split at h1
      ·cases h1
      ·cases h1
       intro r hr
       rcases List.mem_append.1 hr with q | q
       ·exact hm r q
       ·have e:r=_:=(by simpa using q)
        rw [e]
        exact hi _ (by simp) n cs rfl
   | clause a ls=>
    obtain ⟨x,_,_,_,h4⟩:=addClause_match (by simpa [addItem] using h1)
    rw [h4]
    exact hm
end
section
open Go.RowKit
theorem info40E:(Tryz.prog.info? 40).map (fun i=>(i.zero,i.size,i.bytes))=some (some (.slice none 0 0),1,24):=by kernel_rfl
theorem row_one {W:World} {x:Value} {t:TypeId}:∀ (j:Nat) (u:Value),[x][j]?=some u→(W.alloc (.cells #[x] t)).cell? ((⟨W.heap.size,0,none⟩:Addr).add j)=some u:=by
 intro j u hu
 rw [Addr.add_lit,Nat.zero_add,(CellsAt.new W #[x] t).cell]
 match j with
 | 0=>simpa using hu
 | j+1=>simp at hu
theorem ownE_pos {w:World} {base:Nat} {e:TypeId} {size n c:Nat} {a:Option Addr} {xs:List Value} (h:w.ownsRow base e size (.slice a n c) n xs) (hn:0<n):∃ g,a=some ⟨g,0,none⟩:=by
 rcases h.2 with ⟨h1,h2⟩ | ⟨g,cap,cur,h1,_⟩
 ·omega
 ·cases h1;exact ⟨g,rfl⟩
def aheadN (d:List Nat):Except Flt (List Nat)→Except Flt (List Nat)
 | .ok r=>.ok (d++r)
 | .error f=>.error f
def RelTo (base B:Nat) (m:Mean) (n:Tn) (R:Except Flt (List Nat)) (e:Ending) (w':World):Prop:=match R with
 | .error f=>e=gaveUp f.1 f.2
 | .ok ds=>e=.returned (.tuple #[])∧MeanAt w' base B { m with rels:=m.rels++[(txt n.g,ds)] }
set_option maxHeartbeats 8000000 in
theorem rel_rest {w:World} {base B:Nat} {m:Mean} (h:MeanAt w base B m) (hbase:base≤w.heap.size) (n:Tn) (cs:List Tn) {av:Option Addr} {cc ib:Nat} (hcv:w.ownsRow ib 129 3 (.slice av cs.length cc) cs.length (tokCs cs)) (hcl:cs.length≤1000000) (h6:¬ m.rels.length=6) (h6l:m.rels.length≤6) (ht:m.taken (txt n.g)=false):Calls Tryz.prog 337 #[.agg #[.string (kindOf n.g),.string (txt n.g),.int .i64 n.line,.slice av cs.length cc],.pointer (some ⟨B,0,none⟩)] w fun e w'=>RelTo base B m n (colsS m 0 cs) e w'∧∃ T,Keeps T w w'∧∀ j∈T,base≤j:=by
 obtain ⟨i0,hi0,hz0,hz1,hz2⟩:=info_parts info3E
 obtain ⟨i4,hi4,hy0,hy1,hy2⟩:=info_parts info40E
 obtain ⟨tD,mD,sz,tN,mN,co,cl,ln,cvs,kvs,hV⟩:=h
 have kA:=Keeps.alloc [] w (.cells #[.string (kindOf n.g),.string (txt n.g),.int .i64 n.line,.slice av cs.length cc] 325)
 have hA:=CellsAt.new w #[.string (kindOf n.g),.string (txt n.g),.int .i64 n.line,.slice av cs.length cc] 325
 obtain ⟨aD,cD,hD⟩:=ownE_len hV.names.row
 have hlen:=hide (fun (w':World) (k:Keeps [] w w')=>len_calls (w:=w') (B:=B) (o:=3) (ns:=m.rels.map Prod.fst) (a:=aD) (c:=cD) (by rw [(hV.cells.keeps k (by simp)).cell,←hD];rfl))
 have htk:=hide (fun (w':World) (k:Keeps [] w w')=>taken_calls (hV.cells.keeps k (by simp)) rfl rfl ((hV.keeps k (by simp)).doms) ((hV.keeps k (by simp)).names) (txt n.g))
 rw [placeIn_names,placeIn_names] at htk
 have ht':((placeIn m.doms (txt n.g)).isSome || (placeIn m.rels (txt n.g)).isSome)=false:=ht
 rw [ht'] at htk
 have hpl:placeB (m.rels.map Prod.fst) (txt n.g)=none:=by
  rw [placeIn_names]
  rw [Bool.or_eq_false_iff] at ht'
  exact Option.isNone_iff_eq_none.1 (by simpa using ht'.2)
 have hadd:=hide (fun (w':World) (k:Keeps [] w w')=>add_calls (s:=txt n.g) (hV.cells.keeps k (by simp)) (o:=3) rfl rfl (X:=[B]) (by simp) (fun j hj=>by have e:j=B:=(by simpa using hj);have:=(hV.cells.keeps k (by simp)).lt;omega) (by have:=k.size;omega) ((hV.keeps k (by simp)).names) (by rw [List.length_map];omega) hpl)
 have hplc:=hide (fun (w':World) (k:Keeps [] w w') (s:ByteArray)=>place_calls (B:=B) (o:=0) ((hV.keeps k (by simp)).doms) (by rw [(hV.cells.keeps k (by simp)).cell];rfl) s)
 have hBl:=hV.cells.lt
 rw [List.length_map] at hlen
 have h6I:(((m.rels.length:Nat):Int) == 6)=false:=by rw [beq_eq_false_iff_ne];omega
 have hno:=hide (fun (w:World)=>refuse_no (w:=w) n 6)
 have hno2:=hide (fun (w:World)=>refuse_no (w:=w) n 7)
 have HV:=hide hV
 generalize hR:colsS m 0 cs=R
 have HR:=hide hR
 have Hcv:=hide hcv
 clear hV ht ht' hR hcv
 go_enter Tryz.func337,Tryz.ntmps337
 go_upto_region 1 with fail
 go_cut [] (fun wc=>Keeps [] w wc∧CellsAt wc w.heap.size #[.string (kindOf n.g),.string (txt n.g),.int .i64 n.line,.slice av cs.length cc])
 case first=>
  go_region_law (first
   | (refine step_callA rfl 254 _ _ rfl _ Tryz.func254 (by kernel_rfl) (by kernel_rfl) [.pointer (some ⟨B,3,none⟩)] rfl ?_
      refine (hlen.out _ (kA.trans (Keeps.drew _ _))).mono ?_
      rintro e w1 ⟨rfl,rfl⟩)
   | (refine step_callA rfl 335 _ _ rfl _ Tryz.func335 (by kernel_rfl) (by kernel_rfl) [tokV n,.bool false,.int .i64 6] rfl ?_
      refine (hno.out _).mono ?_
      rintro e w1 ⟨rfl,rfl⟩))
  all_goals
   go_wp2_with fail
   go_meet
   exact ⟨(kA.trans (Keeps.drew _ _)).trans (Keeps.alloc [] _ _),(hA.keeps (Keeps.drew [] _) (by simp)).keeps (Keeps.alloc [] _ _) (by simp)⟩
 case rest=>
  obtain ⟨k1,hA1⟩:=hcut
  have d0:=hA1.cell 0
  have d1:=hA1.cell 1
  have d2:=hA1.cell 2
  go_upto_region 2 with fail
  go_cut [] (fun wc2=>Keeps [] w wc2∧CellsAt wc2 w.heap.size #[.string (kindOf n.g),.string (txt n.g),.int .i64 n.line,.slice av cs.length cc])
  case first=>
   go_region_law (first
    | (refine step_callA rfl 336 _ _ rfl _ Tryz.func336 (by kernel_rfl) (by kernel_rfl) [.pointer (some ⟨B,0,none⟩),.string (txt n.g)] rfl ?_
       refine (htk.out _ (k1.trans (Keeps.drew _ _))).mono ?_
       rintro e w1 ⟨rfl,rfl⟩)
    | (refine step_callA rfl 335 _ _ rfl _ Tryz.func335 (by kernel_rfl) (by kernel_rfl) [tokV n,.bool false,.int .i64 7] rfl ?_
       refine (hno2.out _).mono ?_
       rintro e w1 ⟨rfl,rfl⟩))
   all_goals
    go_wp2_with fail
    go_meet
    exact ⟨(k1.trans (Keeps.drew _ _)).trans (Keeps.alloc [] _ _),(hA1.keeps (Keeps.drew [] _) (by simp)).keeps (Keeps.alloc [] _ _) (by simp)⟩
  case rest=>
   clear d0 d1 d2 hA1 k1 hlen htk hno hno2 kA hA
   obtain ⟨k1,hA1⟩:=hcut
   have d3:=hA1.cell 3
   go_wp2_with fail
   go_loopw [4,28] (fun y x wr=>∃ (i:Nat) (ds:List Nat),x=.int .i64 i∧i=ds.length∧i≤cs.length∧i≤3∧wr.ownsRow (w.heap.size+1) 3 1 y ds.length (natsV ds)∧Keeps [] w wr∧w.heap.size+1≤wr.heap.size∧CellsAt wr w.heap.size #[.string (kindOf n.g),.string (txt n.g),.int .i64 n.line,.slice av cs.length cc]∧aheadN ds (colsS m i (cs.drop i))=R) (fun _ x _=>cs.length - (intOf x).toNat)
   case atStart=>exact ⟨0,[],rfl,rfl,by omega,by omega,World.ownsRow_nil ..,k1,by have:=hA1.lt;omega,hA1,by rw [List.drop_zero,HR.out];cases R <;> rfl⟩
   case round=>
    clear d3 hA1 k1 HR
    obtain ⟨i,ds,rfl,hid,hic,hi3,own,kr,hsz,hAr,hres⟩:=hrel
    have Hid1:=hide hid
    clear hid
    by_cases hil:i<cs.length
    ·obtain ⟨c,hc⟩:∃ c,cs[i]?=some c:=⟨_,List.getElem?_eq_getElem hil⟩
     have hdrop:cs.drop i=c :: cs.drop (i+1):=by
      rw [List.drop_eq_getElem_cons hil]
      congr 1
      rw [List.getElem?_eq_getElem hil] at hc
      exact Option.some.inj hc
     rw [hdrop,colsS] at hres
     have hcr:=ownsRow_kept Hcv.out kr (by simp)
     obtain ⟨gc,hgc⟩:=ownE_pos hcr (by omega)
     subst hgc
     obtain ⟨tcs,ht1,ht2⟩:=rowPTok hcr
     obtain ⟨t0,t1,t2⟩:=ht2 i c hc
     rw [Nat.zero_add] at t0 t1 t2
     have c0:wr.cell? ⟨gc,i * 3,none⟩=some (.string (kindOf c.g)):=by rw [ht1.cell];exact t0
     have c1:wr.cell? ⟨gc,i * 3+1,none⟩=some (.string (txt c.g)):=by rw [ht1.cell];exact t1
     have c2:wr.cell? ⟨gc,i * 3+2,none⟩=some (.int .i64 c.line):=by rw [ht1.cell];exact t2
     have hgl:=ht1.lt
     have hiI:(i:Int)<cs.length:=by omega
     have kT:=Keeps.alloc [] wr (.cells #[.string (kindOf c.g),.string (txt c.g),.int .i64 c.line] 129)
     have hTk:=CellsAt.new wr #[.string (kindOf c.g),.string (txt c.g),.int .i64 c.line] 129
     clear t0 t1 t2 ht1 ht2 hcr hdrop hc
     by_cases h3:i=3
     ·rw [if_pos h3] at hres
      have Hres:=hide hres
      have q3:((i:Int) == 3)=true:=by rw [h3];rfl
      have hy:=hide (fun (w:World)=>refuse_yes (w:=w) c 6)
      clear hres h3
      go_wp2_with fail
      refine (hy.out _).mono ?_
      rintro e w3 ⟨rfl,rfl⟩
      exact ⟨rfl,by rw [←Hres.out];rfl,[],(kr.trans kT).trans (Keeps.alloc [] _ _),by simp⟩
     ·rw [if_neg h3] at hres
      have q3:((i:Int) == 3)=false:=by rw [beq_eq_false_iff_ne];omega
      have hn6:=hide (fun (w:World)=>refuse_no (w:=w) c 6)
      have k2:=(kr.trans kT).trans (Keeps.alloc [] (wr.alloc (.cells #[.string (kindOf c.g),.string (txt c.g),.int .i64 c.line] 129)) (.cells #[.string (kindOf c.g),.string (txt c.g),.int .i64 c.line] 129))
      have hTk2:=hTk.keeps (Keeps.alloc [] (wr.alloc (.cells #[.string (kindOf c.g),.string (txt c.g),.int .i64 c.line] 129)) (.cells #[.string (kindOf c.g),.string (txt c.g),.int .i64 c.line] 129)) (by simp)
      have hAr2:=(hAr.keeps kT (by simp)).keeps (Keeps.alloc [] (wr.alloc (.cells #[.string (kindOf c.g),.string (txt c.g),.int .i64 c.line] 129)) (.cells #[.string (kindOf c.g),.string (txt c.g),.int .i64 c.line] 129)) (by simp)
      have own2:=(ownsRow_kept (ownsRow_kept own kT (by simp)) (Keeps.alloc [] (wr.alloc (.cells #[.string (kindOf c.g),.string (txt c.g),.int .i64 c.line] 129)) (.cells #[.string (kindOf c.g),.string (txt c.g),.int .i64 c.line] 129)) (by simp))
      clear h3
      go_wp2_with fail
      refine (hn6.out _).mono ?_
      rintro e w3 ⟨rfl,rfl⟩
      have hsz3:w.heap.size+1≤((wr.alloc (.cells #[.string (kindOf c.g),.string (txt c.g),.int .i64 c.line] 129)).alloc (.cells #[.string (kindOf c.g),.string (txt c.g),.int .i64 c.line] 129)).heap.size:=by rw [sizeE_alloc,sizeE_alloc];omega
      generalize hW:((wr.alloc (.cells #[.string (kindOf c.g),.string (txt c.g),.int .i64 c.line] 129)).alloc (.cells #[.string (kindOf c.g),.string (txt c.g),.int .i64 c.line] 129))=W at *
      have e0:=hTk2.cell 0
      have e1:=hTk2.cell 1
      have e2:=hTk2.cell 2
      clear hW kT hTk hn6 c0 c1 c2 own hAr kr
      go_wp2_with fail
      go_region_law (first
       | (refine step_callA rfl 77 _ _ rfl _ Tryz.func77 (by kernel_rfl) (by kernel_rfl) [.pointer (some ⟨B,0,none⟩),.string (txt c.g)] rfl ?_
          refine (hplc.out _ (k2.trans (Keeps.drew _ _)) (txt c.g)).mono ?_
          rintro e w4 ⟨rfl,rfl⟩))
      rw [placeIn_names]
      cases hdm:m.dom (txt c.g) with
      | none=>
       rw [hdm] at hres
       have hdm':placeIn m.doms (txt c.g)=none:=hdm
       rw [hdm']
       have Hres:=hide hres
       have hy:=hide (fun (w:World)=>refuse_yes (w:=w) c 8)
       clear hres hdm hdm'
       go_wp2_with fail
       refine (hy.out _).mono ?_
       rintro e w5 ⟨rfl,rfl⟩
       exact ⟨rfl,by rw [←Hres.out];rfl,[],(k2.trans (Keeps.drew _ _)).trans (Keeps.alloc [] _ _),by simp⟩
      | some dm=>
       rw [hdm] at hres
       have hdm':placeIn m.doms (txt c.g)=some dm:=hdm
       rw [hdm']
       have hah:aheadN (ds++[dm]) (colsS m (i+1) (cs.drop (i+1)))=R:=by
        rw [←hres]
        show _=aheadN ds (match colsS m (i+1) (cs.drop (i+1)) with
         | .error f=>Except.error f
         | .ok r=>.ok (dm :: r))
        cases colsS m (i+1) (cs.drop (i+1)) with
        | error f=>rfl
        | ok r=>simp [aheadN]
       have Hah:=hide hah
       have hn8:=hide (fun (w:World)=>refuse_no (w:=w) c 8)
       have hi2:i+1≤3:=by have:i≠3:=by intro e;rw [e] at q3;cases q3
                          omega
       clear hres hah hdm hdm'
       go_wp2_with fail
       refine (hn8.out _).mono ?_
       rintro e w5 ⟨rfl,rfl⟩
       have k5:=(k2.trans (Keeps.drew [] W)).trans (Keeps.alloc [] W.drew (.cells #[.string (kindOf c.g),.string (txt c.g),.int .i64 c.line] 129))
       have kW:Keeps [] W (W.drew.alloc (.cells #[.string (kindOf c.g),.string (txt c.g),.int .i64 c.line] 129)):=(Keeps.drew [] W).trans (Keeps.alloc [] W.drew _)
       have own5:=ownsRow_kept own2 kW (by simp)
       have hAr5:=hAr2.keeps kW (by simp)
       have hsz5:w.heap.size+1≤(W.drew.alloc (.cells #[.string (kindOf c.g),.string (txt c.g),.int .i64 c.line] 129)).heap.size:=Nat.le_trans hsz3 kW.size
       generalize hW5:W.drew.alloc (.cells #[.string (kindOf c.g),.string (txt c.g),.int .i64 c.line] 129)=W5 at *
       obtain ⟨ay,cy,hy⟩:=ownE_len own5
       subst hy
       have kB:=Keeps.alloc [] W5 (.cells #[.int .i64 (dm:Int)] 3)
       have ownB:=ownsRow_kept own5 kB (by simp)
       have Hid2:=Hid1.out
       have hdl:ds.length≤3:=by omega
       clear Hid2 hW5 kW own2 hAr2 k2 hTk2 e0 e1 e2 hn8
       go_wp2_with (at_builtin;refine wpList_append_own_at _ rfl _ _ 40 rfl (w.heap.size+1) 3 i0 (.int .i64 0) 1 8 Tryz.underlying40 hi0 hz0 hz1 hz2 rfl (by decide) _ ds.length (natsV ds) rfl ownB ⟨W5.heap.size,0,none⟩ 1 1 [.int .i64 (dm:Int)] rfl (by simp) row_one (by simp [Value.oneCell']) (by unfold maxLen;omega) (by omega) (by rw [sizeE_alloc];omega) ?_)
       intro v' W6 own6 grow6 nil6 at6
       have k6:=grownBy_keeps' grow6 (Value.slice ay ds.length cy).ownBlock.toList (fun r e=>.inl (by simp [e]))
       have hl6:∀ j∈(Value.slice ay ds.length cy).ownBlock.toList,w.heap.size+1≤j:=fun j hj=>(ownE_base own5 j (by simpa using hj)).1
       have kf:Keeps [] w W6:=(k5.trans kB).trans_new k6 fun j hj=>.inr (by have:=hl6 j hj;omega)
       have hAr6:=(hAr5.keeps kB (by simp)).keeps k6 (fun hx=>by have:=hl6 _ hx;omega)
       have hsz6:w.heap.size+1≤W6.heap.size:=by have:=kB.size;have:=k6.size;omega
       have HA6:=hide hAr6
       clear hAr6 hAr5 grow6 at6 nil6 ownB own5
       go_wp2_with fail
       go_roundw
       ·exact ⟨i+1,ds++[dm],by simp,by rw [List.length_append,List.length_singleton,←Hid1.out],by omega,hi2,by rw [natsV,List.map_append,List.length_append,List.length_singleton];exact own6,kf,hsz6,HA6.out,Hah.out⟩
       ·simp only [intOf];omega
    ·have hiI:¬ (i:Int)<cs.length:=by omega
     have hdz:cs.drop i=[]:=List.drop_eq_nil_of_le (by omega)
     rw [hdz,colsS] at hres
     simp only [aheadN,List.append_nil] at hres
     have Hres:=hide hres
     obtain ⟨yc,cyc,hyc⟩:=ownE_len own
     subst hyc
     have c1:=hAr.cell 1
     have Hown:=hide own
     clear hres hdz hplc own
     go_upto_region 12 with fail
     go_cut [] (fun wx=>∃ wy,Keeps [] wr wy∧Added wy base [B] B 3 #[tD,mD,sz,tN,mN,co,cl,ln] tN mN (m.rels.map Prod.fst) (txt n.g) wx)
     case first=>
      go_region_law (first
       | (refine step_callA rfl 72 _ _ rfl _ Tryz.func72 (by kernel_rfl) (by kernel_rfl) [.pointer (some ⟨B,3,none⟩),.string (txt n.g)] rfl ?_
          refine (hadd.out _ (kr.trans (Keeps.drew _ _))).mono ?_
          rintro e w4 ⟨rfl,hAd⟩))
      all_goals
       go_wp2_with fail
       go_meet
       exact ⟨_,Keeps.drew _ _,hAd⟩
     case rest=>
      obtain ⟨wy,kwy,hAd⟩:=hcut
      have ky:=kr.trans kwy
      have hVy:=HV.out.keeps ky (by simp)
      have hrow:=ownsRow_kept Hown.out kwy (by simp)
      obtain ⟨tv',mv',hcells,hset,hown',hmap'⟩:=hAd.set
      obtain ⟨T,kT,hT⟩:=hAd.keep
      have hT':∀ j∈T,j∈[B]++(ownL tN++mapL mN):=fun j hj=>by
       rcases hT j hj with h | h | h
       ·simp [h]
       ·have h2:tN.ownBlock=some j:=h
        simp [ownL,h2]
       ·have h2:mN=.map (some j):=h
        simp [mapL,h2]
      have hcells':CellsAt wc B #[tD,mD,sz,tv',mv',co,cl,ln]:=hcells
      have hfy:=hVy.foot
      have hfl:=hVy.foot_lt
      have hszT:∀ j∈ownL co,j∉T:=fun j hj hjT=>by
       have h1:=hT' j hjT
       have h2:((headR B tD mD sz++ownL tN++mapL mN)++ownL co++(ownL cl++ownL ln)).Nodup:=by rw [footR] at hfy;simpa using hfy
       refine ((mem_apart h2).1 j hj).1 ?_
       simp at h1
       rcases h1 with q | q | q <;> simp [headR,q]
      have hsz:=ownsRow_kept hVy.cols kT (fun j hj=>hszT j (by simp [ownL,hj]))
      obtain ⟨aS,cS,hS⟩:=ownE_len hsz
      subst hS
      have hTlt:∀ j∈T,j<w.heap.size:=fun j hj=>(HV.out.foot_lt j (by have:=hT' j hj;simp at this;rcases this with q | q | q <;> simp [footL,q])).2
      have hrowc:=ownsRow_kept hrow kT (fun j hj hx=>by have:=(ownE_base hrow j hj).1;have:=hTlt j hx;omega)
      have d2:=hcells'.cell 5
      have hBc:=hcells'.lt
      have kA4:=Keeps.alloc [] wc (.cells #[.slice yc ds.length cyc] 40)
      have ownB:=ownsRow_kept hsz kA4 (by simp)
      have hsy:=ky.size
      have hsT:=kT.size
      have hswy:=kwy.size
      clear hadd hAd hcells hT
      go_wp2_with (at_builtin;refine wpList_append_own_at _ rfl _ _ 37 rfl base 40 i4 (.slice none 0 0) 1 24 Tryz.underlying37 hi4 hy0 hy1 hy2 rfl (by decide) _ m.rels.length cvs rfl ownB ⟨wc.heap.size,0,none⟩ 1 1 [.slice yc ds.length cyc] rfl (by simp) row_one (by simp [Value.oneCell']) (by unfold maxLen;omega) (by omega) (by rw [sizeE_alloc];omega) ?_)
      intro v' W2 own4 grow4 nil4 at4
      have k4:=grownBy_keeps' grow4 (ownL (.slice aS m.rels.length cS)) (fun r e=>.inl (by simp [ownL,e]))
      obtain ⟨gg,cap,rfl⟩:=ownE_succ own4
      have hBco:B∉ownL (.slice aS m.rels.length cS):=fun hx=>by
       have h2:((headR B tD mD sz)++(ownL tN++mapL mN++ownL (.slice aS m.rels.length cS))++(ownL cl++ownL ln)).Nodup:=by rw [footR] at hfy;exact hfy
       exact ((mem_apart h2).1 B (List.mem_append_right _ hx)).1 (by simp [headR])
      have hB4:=(hcells'.keeps kA4 (by simp)).keeps k4 hBco
      have e2:=hB4.cell 5
      have f2:=hB4.frozen 5
      have Hown4:=hide own4
      have Hk4:=hide k4
      have HB4:=hide hB4
      clear own4 grow4 nil4 k4 hB4
      go_wp2_with fail
      go_end0
      have hfD:=hfy
      rw [footR] at hfD
      have hAp:=mem_apart hfD
      have hDM:∀ j∈ownL (.slice aS m.rels.length cS),j∉ownL tN∧j∉mapL mN:=fun j hj=>by
       have h2:((headR B tD mD sz++ownL tN++mapL mN)++ownL (.slice aS m.rels.length cS)++(ownL cl++ownL ln)).Nodup:=by simpa using hfD
       have h3:=((mem_apart h2).1 j hj).1
       exact ⟨fun q=>h3 (by simp [q]),fun q=>h3 (by simp [q])⟩
      have hszl:∀ j∈ownL (.slice aS m.rels.length cS),base≤j∧j<w.heap.size:=fun j hj=>HV.out.foot_lt j (by simp [footL,hj])
      have htl:∀ j∈ownL tv',j∈ownL tN∨wy.heap.size≤j:=fun j hj=>by
       rcases hown' j (by simpa [ownL] using hj) with h | h
       ·left;have h2:tN.ownBlock=some j:=h;simp [ownL,h2]
       ·exact .inr h
      have hml:∀ j∈mapL mv',j∈mapL mN∨wy.heap.size≤j:=fun j hj=>by
       have e:mv' = .map (some j):=by
        unfold mapL at hj
        split at hj
        ·have e:j=_:=(by simpa using hj);rw [e]
        ·cases hj
       rcases hmap' j e with h | h
       ·left;have h2:mN=.map (some j):=h;simp [mapL,h2]
       ·exact .inr h
      have hts:∀ j∈ownL tv',j∉ownL (.slice aS m.rels.length cS):=fun j hj hs=>by
       rcases htl j hj with h | h
       ·exact (hDM j hs).1 h
       ·have:=(hszl j hs).2;omega
      have hms:∀ j∈mapL mv',j∉ownL (.slice aS m.rels.length cS):=fun j hj hs=>by
       rcases hml j hj with h | h
       ·exact (hDM j hs).2 h
       ·have:=(hszl j hs).2;omega
      have hgg:gg∈ownL (.slice aS m.rels.length cS)∨gg=wc.heap.size+1:=by
       rcases at4 with h | h
       ·left;simp only [ownL];rw [←h];simp [Value.ownBlock]
       ·right;simpa [Value.ownBlock] using h
      have htw:∀ j∈ownL tv',j<wc.heap.size:=fun j hj=>(ownL_at hset.row j hj).2
      have hmw:∀ j∈mapL mv',j<wc.heap.size:=fun j hj=>(mapL_at hset j hj).2
      have hggB:gg≠B:=by
       rcases hgg with h | h
       ·intro e;exact hBco (by rw [←e];exact h)
       ·omega
      have ks:=Keeps.setCell W2 ⟨B,5,none⟩ (.slice (some ⟨gg,0,none⟩) (m.rels.length+1) cap)
      have kall:Keeps ([B]++(ownL tN++mapL mN++ownL (.slice aS m.rels.length cS))) wy (W2.setCell ⟨B,5,none⟩ (.slice (some ⟨gg,0,none⟩) (m.rels.length+1) cap)):=
       (((kT.mono (fun i hi=>by have:=hT' i hi;simp at this ⊢;rcases this with q | q | q <;> simp [q])).trans (kA4.mono (by simp))).trans (Hk4.out.mono (fun i hi=>by simp [hi]))).trans (ks.mono (by simp))
      have k5:Keeps (ownL (.slice aS m.rels.length cS)++[B]) wc (W2.setCell ⟨B,5,none⟩ (.slice (some ⟨gg,0,none⟩) (m.rels.length+1) cap)):=((kA4.mono (by simp)).trans (Hk4.out.mono (fun i hi=>by simp [hi]))).trans (ks.mono (by simp))
      have hsetF:=hset.kept k5 (fun j hj hx=>by
       rcases List.mem_append.1 hx with h | h
       ·exact hts j hj h
       ·exact hset.rowA j (by simpa [ownL] using hj) h) (fun j hj hx=>by
       rcases List.mem_append.1 hx with h | h
       ·exact hms j hj h
       ·rcases hset.map with ⟨q,_⟩ | ⟨r,q,_,_,q4,_⟩
        ·rw [q] at hj;simp [mapL] at hj
        ·rw [q] at hj;simp [mapL] at hj;subst hj;exact q4 h)
      have hzF:=ownsRow_kept Hown4.out ks (fun j hj hx=>by
       have e1:j=B:=(by simpa using hx)
       have e2:gg=j:=(by simpa [Value.ownBlock] using hj)
       exact hggB (by rw [e2,e1]))
      have hcl5:∀ j∈ownL (.slice yc ds.length cyc),w.heap.size+1≤j∧j<wy.heap.size:=fun j hj=>ownL_at hrow j hj
      have hrowF:=ownE_mono (base':=base) (ownsRow_kept hrowc k5 (fun j hj hx=>by
       have h1:=(hcl5 j (by simp [ownL,hj])).1
       rcases List.mem_append.1 hx with h | h
       ·have:=(hszl j h).2;omega
       ·have e:j=B:=(by simpa using h);omega)) (by omega)
      refine ⟨?_,[B]++(ownL tN++mapL mN++ownL (.slice aS m.rels.length cS)),(ky.mono (by simp)).trans kall,fun j hj=>(HV.out.foot_lt j (by simp at hj;rcases hj with q | q | q | q <;> simp [footL,q])).1⟩
      rw [←Hres.out]
      refine ⟨rfl,hVy.addRel kall (fun j hj=>.inl hj) (HB4.out.setCell 5 _) hsetF hzF hrowF (fun j hj hx=>?_) (fun j hj=>?_) ?_⟩
      ·have h1:=hcl5 j hj
       rw [footR] at hx
       rcases List.mem_append.1 hx with h | h
       ·rcases List.mem_append.1 h with h | h
        ·have:=(HV.out.foot_lt j (by rw [footR];exact List.mem_append_left _ (List.mem_append_left _ h))).2;omega
        ·rcases List.mem_append.1 h with h | h
         ·rcases List.mem_append.1 h with h | h
          ·rcases htl j h with q | q
           ·have:=(HV.out.foot_lt j (by simp [footL,q])).2;omega
           ·omega
          ·rcases hml j h with q | q
           ·have:=(HV.out.foot_lt j (by simp [footL,q])).2;omega
           ·omega
         ·have e:j=gg:=(by simpa [ownL,Value.ownBlock] using h)
          rcases hgg with q | q
          ·have:=(hszl gg q).2;omega
          ·omega
       ·have:=(HV.out.foot_lt j (by rw [footR];exact List.mem_append_right _ h)).2;omega
      ·rcases List.mem_append.1 hj with h | h
       ·rcases List.mem_append.1 h with h | h
        ·rcases htl j h with q | q
         ·left;simp [q]
         ·exact .inr q
        ·rcases hml j h with q | q
         ·left;simp [q]
         ·exact .inr q
       ·have e:j=gg:=(by simpa [ownL,Value.ownBlock] using h)
        rcases hgg with q | q
        ·left;rw [e];simp [q]
        ·right;omega
      ·rw [List.nodup_append,List.nodup_append]
       refine ⟨⟨ownL_nodup _,mapL_nodup _,fun a ha b hb e=>?_⟩,ownL_nodup _,fun a ha b hb e=>?_⟩
       ·subst e
        rcases hset.map with ⟨q,_⟩ | ⟨r,q,_,_,_,q5⟩
        ·rw [q] at hb;simp [mapL] at hb
        ·rw [q] at hb;simp [mapL] at hb;subst hb;exact q5 (by simpa [ownL] using ha)
       ·subst e
        have e2:a=gg:=(by simpa [ownL,Value.ownBlock] using hb)
        subst e2
        rcases hgg with q | q
        ·rcases List.mem_append.1 ha with h | h
         ·exact hts a h q
         ·exact hms a h q
        ·rcases List.mem_append.1 ha with h | h
         ·have:=htw a h;omega
         ·have:=hmw a h;omega
end
end Go.Proofs.YtgjomknpjigkhaaGreatDoor
