import Derived.Test.YtgjomknpjigkhaaGreatDoorS34
namespace Go.Proofs.YtgjomknpjigkhaaGreatDoor
set_option maxRecDepth 100000
set_option maxHeartbeats 4000000
section
open Go.RowKit
def relsM (m:Mean) (vals:List Nat):List RelM:=m.rels.zipIdx.map fun p=>⟨p.1.1,p.1.2.map m.size,vals.getD p.2 0⟩
theorem relsM_at {m:Mean} {vals:List Nat} {i:Nat} {s:ByteArray} {ds:List Nat} (h:m.rels[i]?=some (s,ds)):(relsM m vals)[i]?=some ⟨s,ds.map m.size,vals.getD i 0⟩:=by
 simp [relsM,List.getElem?_zipIdx,h]
theorem relsM_len {m:Mean} {vals:List Nat}:(relsM m vals).length=m.rels.length:=by simp [relsM]
def RelI (W0:World) (b4 base:Nat) (rs:List RelM) (pre:List (Nat×ByteArray)) (W:World):Prop:=Keeps [b4] W0 W∧∃ v vs,CellsAt W b4 #[v]∧W.ownsRow base 144 3 v pre.length vs∧RelVs W base (ownL v) (rs.take pre.length) vs
theorem still_row {b base:Nat} {e:TypeId} {size n:Nat} {v:Value} {xs:List Value} {w w':World} (h:w.ownsRow base e size v n xs) (hs:Still b w w'):w'.ownsRow base e size v n xs:=by
 obtain ⟨e0,⟨e1,e2⟩ | ⟨g,cap,cur,e1,e2,e3,e4⟩⟩:=h
 ·exact ⟨e0,.inl ⟨e1,e2⟩⟩
 ·exact ⟨e0,.inr ⟨g,cap,cur,e1,e2,(hs.block _ (Array.getElem?_eq_some_iff.1 e3).1 (.inr ⟨_,_,_,e3⟩)).trans e3,e4⟩⟩
theorem RelVs.still {b:Nat} {w w':World} {base:Nat} {X:List Nat} {rs:List RelM} {vs:List Value} (h:RelVs w base X rs vs) (hs:Still b w w'):RelVs w' base X rs vs:=by
 induction rs generalizing vs with
 | nil=>exact h
 | cons r rs ih=>
  obtain ⟨v,rest,h1,h2,h3,h4⟩:=h
  exact ⟨v,rest,h1,still_row h2 hs,h3,ih h4⟩
theorem run_move {a:Act} {o:Oper} {w:World} {x:Operand} {v:Value} (hop:o.op=.move x) (hx:a.eval x=v):(execOp a.eval o).run Tryz.prog w=.ok (.value v) w:=by
 simp [execOp,hop,hx]
theorem run_append {a:Act} {o:Oper} {w:World} {x y:Operand} {t base e size bytes n m c:Nat} {i:TypeInfo} {z v:Value} {xs news:List Value} {ad:Addr} (hop:o.op=.call { callee:=.builtin .append,args:=#[x,y],argTypes:=#[t,t] }) (hx:a.eval x=v) (hy:a.eval y=.slice (some ad) m c) (ht:Tryz.prog.underlying t=some (.slice e)) (hi:Tryz.prog.info? e=some i) (hz:i.zero=some z)
  (hsize:i.size=size) (hby:i.bytes=bytes) (hzs:z.cells.size=size) (hsz:0<size) (hown:w.ownsRow base e size v n xs) (hl:news.length=m * size) (hnews:∀ j u,news[j]?=some u→w.cell? (ad.add j)=some u) (h1:∀ u∈news,u.oneCell' = true)
  (h63:n+m≤maxLen) (hbytes:(n+m) * bytes≤140737488355328) (hbase:base≤w.heap.size) :
  ∃ v' w',(execOp a.eval o).run Tryz.prog w=.ok (.value v') w'∧w'.ownsRow base e size v' (n+m) (xs++news)∧w.grownBy w' v.ownBlock∧(v'.ownBlock=v.ownBlock∨v'.ownBlock=some w.heap.size):=by
 obtain ⟨v',w',hr,h2,h3,_,h5⟩:=run_append_own_at (P:=Tryz.prog) w base t o.type e i z size bytes ht hi hz hsize hby hzs hsz v n xs hown ad m c news hl hnews h1 h63 hbytes hbase
 refine ⟨v',w',?_,h2,h3,h5⟩
 simp only [execOp,hop,resolve,invoke,builtin,Sem.run_bind,Sem.run_pure,Result.andThen_ok,List.map_toArray,List.map_cons,List.map_nil,hx,hy,hr]
theorem ld123 {o:Oper} {a:Act} {u:World} {x:Operand} {b k:Nat} {v:Value} (hop:o.op=.load 123 x) (hx:a.eval x=.pointer (some ⟨b,k,none⟩)) (c:u.cell? ⟨b,k,none⟩=some v):(execOp a.eval o).run Tryz.prog u=.ok (.value v) u:=by
 simp only [execOp,hop,hx]
 go_simp
theorem ld201 {o:Oper} {a:Act} {u:World} {x:Operand} {b k:Nat} {v:Value} (hop:o.op=.load 201 x) (hx:a.eval x=.pointer (some ⟨b,k,none⟩)) (c:u.cell? ⟨b,k,none⟩=some v):(execOp a.eval o).run Tryz.prog u=.ok (.value v) u:=by
 simp only [execOp,hop,hx]
 go_simp
theorem ld40 {o:Oper} {a:Act} {u:World} {x:Operand} {b k:Nat} {v:Value} (hop:o.op=.load 40 x) (hx:a.eval x=.pointer (some ⟨b,k,none⟩)) (c:u.cell? ⟨b,k,none⟩=some v):(execOp a.eval o).run Tryz.prog u=.ok (.value v) u:=by
 simp only [execOp,hop,hx]
 go_simp
theorem ld3 {o:Oper} {a:Act} {u:World} {x:Operand} {b k:Nat} {v:Value} (hop:o.op=.load 3 x) (hx:a.eval x=.pointer (some ⟨b,k,none⟩)) (c:u.cell? ⟨b,k,none⟩=some v):(execOp a.eval o).run Tryz.prog u=.ok (.value v) u:=by
 simp only [execOp,hop,hx]
 go_simp
theorem ix40 {o:Oper} {a:Act} {u:World} {x y:Operand} {b i n c:Nat} (hop:o.op=.indexAddr 40 x y) (hx:a.eval x=.slice (some ⟨b,0,none⟩) n c) (hy:a.eval y=.int .i64 (i:Int)) (hi:(i:Int)<n):(execOp a.eval o).run Tryz.prog u=.ok (.value (.pointer (some ⟨b,i,none⟩))) u:=by
 simp only [execOp,hop,hx,hy]
 go_simp
theorem bd144 {o:Oper} {a:Act} {u:World} {x y z:Operand} {s:ByteArray} {sa:Option Addr} {sn sc:Nat} {L:Int} (hop:o.op=.build 144 #[(0,x),(1,y),(2,z)]) (hx:a.eval x=.string s) (hy:a.eval y=.slice sa sn sc) (hz:a.eval z=.int .i64 L):(execOp a.eval o).run Tryz.prog u=.ok (.value (.agg #[.string s,.slice sa sn sc,.int .i64 L])) u:=by
 simp only [execOp,hop,List.map_toArray,List.map_cons,List.map_nil,hx,hy,hz]
 go_simp
theorem bs123 {o:Oper} {a:Act} {u:World} {x:Operand} {s:ByteArray} {sa:Option Addr} {sn sc:Nat} {L:Int} (hop:o.op=.buildSlice 123 1 #[(0,x)]) (hx:a.eval x=.agg #[.string s,.slice sa sn sc,.int .i64 L]):(execOp a.eval o).run Tryz.prog u=.ok (.value (.slice (some ⟨u.heap.size,0,none⟩) 1 1)) (u.alloc (.cells #[.string s,.slice sa sn sc,.int .i64 L] 144)):=by
 simp only [execOp,hop,List.map_toArray,List.map_cons,List.map_nil,hx]
 go_simp
theorem st123 {o:Oper} {a:Act} {u:World} {x y:Operand} {b:Nat} {v:Value} {sa:Option Addr} {sn sc:Nat} (hop:o.op=.store 123 x y) (hx:a.eval x=.pointer (some ⟨b,0,none⟩)) (hy:a.eval y=.slice sa sn sc) (c:u.cell? ⟨b,0,none⟩=some v) (f:u.frozen? ⟨b,0,none⟩=false):(execOp a.eval o).run Tryz.prog u=.ok .skip (u.setCell ⟨b,0,none⟩ (.slice sa sn sc)):=by
 simp only [execOp,hop,hx,hy]
 go_simp
theorem RelVs.noCells {w w':World} {base base' d:Nat} {X:List Nat} {rs:List RelM} {vs:List Value} (h:RelVs w base X rs vs) (k:Keeps [d] w w') (hd:∀ cs t f,w.heap[d]?≠some (.cells cs t f)) (hb:base'≤base):RelVs w' base' X rs vs:=by
 induction rs generalizing vs with
 | nil=>exact h
 | cons r rs ih=>
  obtain ⟨v,rest,h1,h2,h3,h4⟩:=h
  refine ⟨v,rest,h1,ownE_mono (ownsRow_kept h2 k (fun j hj q=>?_)) hb,h3,ih h4⟩
  have e:j=d:=(by simpa using q)
  obtain ⟨_,cs,t,b2⟩:=ownE_base h2 j hj
  rw [e] at b2
  exact hd _ _ _ b2
end
section
open Go.RowKit
def RelDone (W5 W:World) (b4:Nat) (rs:List RelM) (pre:List (Nat×ByteArray)) (nv:Value) (w':World):Prop:=∃ v vs,CellsAt w' b4 #[v]∧w'.ownsRow W5.heap.size 144 3 nv (pre.length+1) vs∧RelVs w' W5.heap.size (ownL nv) (rs.take (pre.length+1)) vs∧Keeps [b4] W5 w'∧Grows W5.heap.size [b4] W w'∧(∀ j∈ownL nv,j≠b4)
set_option maxHeartbeats 8000000 in
theorem rels_in (n:Nat) {w:World} {mb B:Nat} {m:Mean} (hm:MeanAt w mb B m) (hok:MeanOk m) (hnc:∀ c∈m.clauses,circleC m.rels.length (edgesM m.clauses) c=false) (hnm:∀ r∈m.rels,r.1.size≤1000000) :
  CallsIn Fence.wide n Tryz.prog 138 #[.pointer (some ⟨B,0,none⟩)] w fun e w'=>(∃ vals v vs,LayI m.clauses m.rels.length vals∧StableG layG m.clauses vals∧e=.returned v∧w'.ownsRow w.heap.size 144 3 v m.rels.length vs∧RelVs w' w.heap.size (ownL v) (relsM m vals) vs)∧Keeps [] w w':=by
 obtain ⟨i0,hi0,hz0,hz1,hz2⟩:=info_parts info144
 have hBl:=mean_lt hm
 have hn6:=hok.rels
 have k1:=Keeps.alloc [] w (.cells #[.pointer (some ⟨B,0,none⟩)] 201)
 have a1:=CellsAt.new w #[.pointer (some ⟨B,0,none⟩)] 201
 have hlay:=hide (layers_calls (hm.keeps k1 (by simp)) hok hnc)
 rw [sizeE_alloc] at hlay
 obtain ⟨tD,mD,sz,tN,mN,co,cl,ln,cvs,kvs,hV⟩:=id hm
 obtain ⟨aN,cN,hN⟩:=ownE_len hV.names.row
 rw [List.length_map] at hN
 subst hN
 have Hm:=hide hm
 have Hok:=hide hok
 have HV:=hide hV
 clear hm hok hnc hV
 refine callsIn_of_wp_marks Tryz.func138 rfl trivial ?_ rfl
 simp only [Tryz.ntmps138,List.size_toArray,List.length_cons,List.length_nil,Nat.reduceAdd,Nat.reduceSub,Array.replicate_succ,Array.replicate_zero,List.push_toArray,List.append_toArray,List.nil_append,List.cons_append]
 gi_wp2_with fail
 refine ⟨trivial,fun h=>(nomatch h),?_⟩
 refine (callsIn_wide.2 hlay.out).mono ?_
 rintro e w1 ⟨⟨vals,rfl,hL,hLI,hLs⟩,k2⟩
 have z1:w.heap.size+2≤w1.heap.size:=hL.lt
 have a1':=a1.keeps k2 (by simp)
 have kw1:=k1.trans k2
 have k3:=Keeps.alloc [] w1 (.cells #[.slice (some ⟨w.heap.size+1,0,none⟩) m.rels.length m.rels.length] 40)
 have a3:=CellsAt.new w1 #[.slice (some ⟨w.heap.size+1,0,none⟩) m.rels.length m.rels.length] 40
 have k4:=Keeps.alloc [] (w1.alloc (.cells #[.slice (some ⟨w.heap.size+1,0,none⟩) m.rels.length m.rels.length] 40)) (.cells #[.slice none 0 0] 123)
 have a4:=CellsAt.new (w1.alloc (.cells #[.slice (some ⟨w.heap.size+1,0,none⟩) m.rels.length m.rels.length] 40)) #[.slice none 0 0] 123
 rw [sizeE_alloc] at a4
 have k34:=k3.trans k4
 have b1:=a1'.keeps k34 (by simp)
 have bL:=hL.keeps k34 (by simp)
 have b3:=a3.keeps k4 (by simp)
 have kw4:=kw1.trans k34
 have c1:=a1'.cell 0
 simp at c1
 have zz:((w1.alloc (.cells #[.slice (some ⟨w.heap.size+1,0,none⟩) m.rels.length m.rels.length] 40)).alloc (.cells #[.slice none 0 0] 123)).heap.size=w1.heap.size+2:=by rw [sizeE_alloc,sizeE_alloc]
 have cN3:=(HV.out.cells.keeps kw4 (by simp)).cell 3
 have hB3:=all_calls (w:=(w1.alloc (.cells #[.slice (some ⟨w.heap.size+1,0,none⟩) m.rels.length m.rels.length] 40)).alloc (.cells #[.slice none 0 0] 123)) (B:=B) cN3
 have HB3:=hide hB3
 clear hB3 cN3 k3 k4 a3 k34 a1 a1' hL hlay
 have hw1l:w.heap.size<w1.heap.size:=by omega
 gi_wp2_with fail
 generalize (w1.alloc (.cells #[.slice (some ⟨w.heap.size+1,0,none⟩) m.rels.length m.rels.length] 40)).alloc (.cells #[.slice none 0 0] 123)=W4 at *
 refine ⟨trivial,fun h=>(nomatch h),?_⟩
 refine (callsIn_wide.2 HB3.out).mono ?_
 rintro e w5 ⟨rfl,rfl⟩
 have k5:=Keeps.alloc [] W4 (.cells #[.slice aN m.rels.length cN] 35)
 have hp5:=CellsAt.new W4 #[.slice aN m.rels.length cN] 35
 have d1:=b1.keeps k5 (by simp)
 have dL:=bL.keeps k5 (by simp)
 have d3:=b3.keeps k5 (by simp)
 have d4:=a4.keeps k5 (by simp)
 have kw5:=kw4.trans k5
 have z5:(W4.alloc (.cells #[.slice aN m.rels.length cN] 35)).heap.size=w1.heap.size+3:=by rw [sizeE_alloc,zz]
 have hit:=all_iter (w:=W4.alloc (.cells #[.slice aN m.rels.length cN] 35)) (p:=W4.heap.size) (g:=(aN.map (·.block)).getD 0) (c:=cN) (ns:=m.rels.map Prod.fst) (a:=aN) (by rw [List.length_map];exact hp5) (fun s hs=>by
   have hpos:0<(m.rels.map Prod.fst).length:=List.length_pos_of_mem hs
   have hrow:=HV.out.names.row
   have hle:(m.rels.map Prod.fst).length=m.rels.length:=by rw [List.length_map]
   rw [hle] at hrow hpos
   obtain ⟨g,hg⟩:=ownE_pos2 hrow hpos
   subst hg
   exact ⟨rfl,Nat.lt_of_lt_of_le (ownE_lt hrow g rfl).2 kw5.size⟩) (fun {W} hW i s hs=>by
   have hrow:=HV.out.names.row
   have hle:(m.rels.map Prod.fst).length=m.rels.length:=by rw [List.length_map]
   rw [hle] at hrow
   have hpos:0<m.rels.length:=by
    rcases Nat.lt_or_ge i (m.rels.map Prod.fst).length with q | q
    ·rw [hle] at q;omega
    ·rw [List.getElem?_eq_none q] at hs;cases hs
   obtain ⟨g,hg⟩:=ownE_pos2 hrow hpos
   subst hg
   have h5:=ownsRow_kept hrow kw5 (by simp)
   have hc:=ownE_cells h5 (j:=i) (v:=.string s) (by simp [eS];simpa using hs)
   have hb:W.heap[g]?=(W4.alloc (.cells #[.slice (some ⟨g,0,none⟩) m.rels.length cN] 35)).heap[g]?:=hW g rfl
   obtain ⟨_,⟨h1,_⟩ | ⟨g',cap,cur,hv,hb',hg,hn,hc',hs',htk⟩⟩:=h5
   ·cases h1
   ·cases hv
    have hcc:CellsAt W g cur:=⟨_,by rw [hb];exact hg⟩
    have hcc':CellsAt (W4.alloc (.cells #[.slice (some ⟨g,0,none⟩) m.rels.length cN] 35)) g cur:=⟨_,hg⟩
    rw [hcc'.cell] at hc
    show W.cell? ⟨g,i,none⟩=_
    rw [hcc.cell]
    exact hc) (by rw [List.length_map];omega) [w1.heap.size+1] (fun t ht=>by
   have e:t=w1.heap.size+1:=(by simpa using ht)
   refine ⟨by rw [z5];omega,by rw [e,zz];omega,fun hne=>?_⟩
   have hrow:=HV.out.names.row
   have hle:(m.rels.map Prod.fst).length=m.rels.length:=by rw [List.length_map]
   have hpos:0<(m.rels.map Prod.fst).length:=List.length_pos_iff.2 hne
   rw [hle] at hrow hpos
   obtain ⟨g,hg⟩:=ownE_pos2 hrow hpos
   subst hg
   have:=(ownE_lt hrow g rfl).2
   show t≠g
   omega)
 have h0:RelI (W4.alloc (.cells #[.slice aN m.rels.length cN] 35)) (w1.heap.size+1) (W4.alloc (.cells #[.slice aN m.rels.length cN] 35)).heap.size (relsM m vals) [] (W4.alloc (.cells #[.slice aN m.rels.length cN] 35)):=⟨Keeps.refl _ _,.slice none 0 0,[],d4,World.ownsRow_nil ..,rfl⟩
 have Hd1:=hide d1
 have HdL:=hide dL
 have Hd3:=hide d3
 have Hkw:=hide kw5
 clear d1 dL d3 d4 kw5 hp5 k5 a4 b1 bL b3 kw4 kw1 HB3
 generalize hW5:W4.alloc (.cells #[.slice aN m.rels.length cN] 35)=W5 at *
 rw [zz] at hit
 gi_wp2_with fail
 refine range_lawG (gf:=222) (lb:=#[.pointer (some ⟨w1.heap.size+2,0,none⟩)]) rfl (enters_of Tryz.func222 (by kernel_rfl) rfl) (T:=[w1.heap.size+1]) (by simp;omega) hit (fun _=>rfl)
  (RelI W5 (w1.heap.size+1) W5.heap.size (relsM m vals))
  (fun pre W1 W2 hI hs=>by
   obtain ⟨kk,v,vs,h1,h2,h3⟩:=hI
   have hlt:=h1.lt
   refine ⟨⟨hs.os.trans kk.os,hs.tape.trans kk.tape,hs.output.trans kk.output,Nat.le_trans kk.size hs.size,fun i hi hn=>(hs.block i (Nat.lt_of_lt_of_le hi kk.size) (.inl hi)).trans (kk.block i hi hn)⟩,v,vs,h1.of_heap (hs.block _ hlt (.inl (by omega))),still_row h2 hs,h3.still hs⟩) h0
  (fun x a' _=>a' = { tmps:=#[.pointer (some ⟨B,0,none⟩),.pointer (some ⟨w.heap.size,0,none⟩),.slice none 0 0,.pointer (some ⟨w1.heap.size,0,none⟩),.pointer (some ⟨w1.heap.size+1,0,none⟩),.int .i64 (x.1:Int),.string x.2,.pointer (some ⟨B,0,none⟩),.slice (some ⟨w.heap.size+1,0,none⟩) m.rels.length m.rels.length,.pointer (some ⟨B,0,none⟩),.pointer (some ⟨B,0,none⟩),.pointer (some ⟨B,3,none⟩),.func (.func 222) #[] #[.pointer (some ⟨w1.heap.size+2,0,none⟩)],.int .i64 (x.1:Int),.string x.2,undef,undef,undef,undef,undef,undef,undef,undef,undef,undef,undef,undef,undef,undef],defers:=[] })
  (fun x a' W1 W2 h _=>h) ?assign ?body ?done
 case assign=>
  intro l pre x W K hlt hi hc hK
  simp only [eP,List.zip_toArray,List.zip_cons_cons,List.zip_nil_right,List.foldl_toArray',List.size_toArray,List.length_cons,List.length_nil,List.foldl_cons,List.foldl_nil,List.setIfInBounds_toArray,List.set_cons_succ,List.set_cons_zero]
  gi_wp2
  exact hK _ _ rfl (Keeps.refl _ _)
 case body=>
  rintro l pre ⟨i,s⟩ a' W hlt ⟨kW,v,vs,hc4,hown,hrv⟩ ⟨hi,hs⟩ rfl
  have hfol:Tryz.prog.follows .mixedOrders=true:=by kernel_rfl
  have hi':i=pre.length:=hi
  subst hi'
  have hrs:∃ ds,m.rels[pre.length]?=some (s,ds):=by
   rw [List.getElem?_map] at hs
   cases hq:m.rels[pre.length]? with
   | none=>rw [hq] at hs;cases hs
   | some q=>rw [hq] at hs;cases hs;exact ⟨q.2,rfl⟩
  obtain ⟨ds,hrs⟩:=hrs
  have hrm:=relsM_at (vals:=vals) hrs
  have hprl:pre.length<m.rels.length:=by
   rcases Nat.lt_or_ge pre.length m.rels.length with q | q
   ·exact q
   ·rw [List.getElem?_eq_none q] at hrs;cases hrs
  have hnl:s.size≤1000000:=hnm _ (List.mem_of_getElem? hrs)
  have kwW:Keeps [] w W:=Hkw.out.trans_new kW (fun j hj=>.inr (by have e:j=w1.heap.size+1:=(by simpa using hj);omega))
  have e1:=Hd1.out.keeps kW (by simp;omega)
  have eL:=HdL.out.keeps kW (by simp;omega)
  have e3:=Hd3.out.keeps kW (by simp)
  have Hsz:=hide (fun (W':World) (k:Keeps [] W W')=>sizesOf_calls (Hm.out.keeps (kwW.trans k) (by simp)) Hok.out hrs)
  have hvl:vals.length=m.rels.length:=hLI.1
  generalize hRM:(⟨s,ds.map m.size,vals.getD pre.length 0⟩:RelM)=r at *
  have hrn:r.name=s:=by rw [←hRM]
  have hrz:r.sizes=ds.map m.size:=by rw [←hRM]
  have hrl:r.layer=vals.getD pre.length 0:=by rw [←hRM]
  have hzW:=kW.size
  have Hown:=hide hown
  have Hrv:=hide hrv
  clear hit hown hrv h0
  gi_wp2_with fail
  refine wpIn_region_flow (S:=fun listed a w'=>Flow 15 12 (relφ W B (w.heap.size+1) m.rels.length pre.length v r) { tmps:=#[.pointer (some ⟨B,0,none⟩),.pointer (some ⟨w.heap.size,0,none⟩),.slice none 0 0,.pointer (some ⟨w1.heap.size,0,none⟩),.pointer (some ⟨w1.heap.size+1,0,none⟩),.int .i64 (pre.length:Int),.string s,.pointer (some ⟨B,0,none⟩),.slice (some ⟨w.heap.size+1,0,none⟩) m.rels.length m.rels.length,.pointer (some ⟨B,0,none⟩),.pointer (some ⟨B,0,none⟩),.pointer (some ⟨B,3,none⟩),.func (.func 222) #[] #[.pointer (some ⟨w1.heap.size+2,0,none⟩)],.int .i64 (pre.length:Int),.string s,undef,undef,undef,undef,undef,undef,undef,undef,undef,undef,undef,undef,undef,undef],defers:=[] } W listed a w'
    ∨ (listed.getD 12 false=true∧listed.getD 13 false=false∧a.eval (.tmp 4)=.pointer (some ⟨w1.heap.size+1,0,none⟩)∧∃ nv,a.eval (.tmp 27)=nv∧RelDone W5 W (w1.heap.size+1) (relsM m vals) pre nv w')
    ∨ (listed.getD 13 false=true∧RelI W5 (w1.heap.size+1) W5.heap.size (relsM m vals) (pre++[(pre.length,s)]) w'∧Grows W5.heap.size [w1.heap.size+1] W w')) hfol (by kernel_rfl) ?_ ?_ ?_
  ·exact .inl ⟨rfl,fun _ _=>rfl,rfl,Keeps.drew [] W,fun j hj hl=>(by rw [replicate_no] at hl;cases hl),rfl,replicate_no _ _,replicate_no _ _⟩
  ·intro listed a u i hS hcl hlz hi14 hin hdep
   rcases hS with hF | ⟨h12,h13,hp4,nv,hnv,hD⟩ | ⟨h13,_⟩
   ·have put:=fun {j:Nat} {u':World} {v':Value} (k:Keeps [] u u') (hj:j<12) (hv:relφ W B (w.heap.size+1) m.rels.length pre.length v r j v' u')=>hF.put (i:=j) (relφ_keeps (W:=W) (B:=B) (gL:=w.heap.size+1) (n:=m.rels.length) (i:=pre.length) (v:=v) (r:=r)) k hj (show 27≤29 by omega) hv
    have keep:=hF.keep
    have t1:a.eval (.tmp 1)=.pointer (some ⟨w.heap.size,0,none⟩):=hF.low 1 (by omega)
    have t3:a.eval (.tmp 3)=.pointer (some ⟨w1.heap.size,0,none⟩):=hF.low 3 (by omega)
    have t4:a.eval (.tmp 4)=.pointer (some ⟨w1.heap.size+1,0,none⟩):=hF.low 4 (by omega)
    have t5:a.eval (.tmp 5)=.int .i64 (pre.length:Int):=hF.low 5 (by omega)
    have t6:a.eval (.tmp 6)=.string s:=hF.low 6 (by omega)
    have got:=fun (j:Nat) (hj:j<12) (hl:listed.getD j false=true)=>hF.got j hj hl
    match i,hi14,hdep,hin with
    | 0,_,hdep,_=>
     have c:=(hc4.keeps keep (by simp)).cell 0
     exact opIn_val rfl rfl (by intro c h;cases h) (ld123 rfl t4 c) (.inl (put (Keeps.refl _ _) (by omega) rfl))
    | 1,_,hdep,_=>exact opIn_val rfl rfl (by intro c h;cases h) (run_move rfl t6) (.inl (put (Keeps.refl _ _) (by omega) (by rw [←hrn];rfl)))
    | 2,_,hdep,_=>
     have g1:a.eval (.tmp 16)=.string r.name:=got 1 (by omega) (hdep _ rfl ⟨1,.data⟩ (by simp) rfl)
     refine opIn_call rfl rfl (by intro c h;cases h) (run_call 203 _ _ rfl _ Tryz.func203 (by kernel_rfl) (by kernel_rfl) [.string r.name] (by simp [g1])) (clone203_calls r.name (by rw [hrn];exact hnl)) ?_
     rintro e u' ⟨rfl,k⟩
     exact ⟨_,rfl,.inl (put k (by omega) rfl)⟩
    | 3,_,hdep,_=>
     have c:=(e1.keeps keep (by simp)).cell 0
     exact opIn_val rfl rfl (by intro c h;cases h) (ld201 rfl t1 c) (.inl (put (Keeps.refl _ _) (by omega) rfl))
    | 4,_,hdep,_=>exact opIn_val rfl rfl (by intro c h;cases h) (run_move rfl t5) (.inl (put (Keeps.refl _ _) (by omega) rfl))
    | 5,_,hdep,_=>
     have g1:a.eval (.tmp 18)=.pointer (some ⟨B,0,none⟩):=got 3 (by omega) (hdep _ rfl ⟨3,.data⟩ (by simp) rfl)
     have g2:a.eval (.tmp 19)=.int .i64 (pre.length:Int):=got 4 (by omega) (hdep _ rfl ⟨4,.data⟩ (by simp) rfl)
     refine opIn_call rfl rfl (by intro c h;cases h) (run_call 204 _ _ rfl _ Tryz.func204 (by kernel_rfl) (by kernel_rfl) [.pointer (some ⟨B,0,none⟩),.int .i64 (pre.length:Int)] (by simp [g1,g2])) (Hsz.out u keep) ?_
     rintro e u' ⟨⟨sv,rfl,hsv⟩,k⟩
     refine ⟨_,rfl,.inl (put k (by omega) ?_)⟩
     show u'.ownsRow W.heap.size 3 1 sv r.sizes.length (intsV r.sizes)
     rw [hrz,List.length_map]
     exact ownE_mono hsv keep.size
    | 6,_,hdep,_=>
     have c:=(e3.keeps keep (by simp)).cell 0
     exact opIn_val rfl rfl (by intro c h;cases h) (ld40 rfl t3 c) (.inl (put (Keeps.refl _ _) (by omega) rfl))
    | 7,_,hdep,_=>exact opIn_val rfl rfl (by intro c h;cases h) (run_move rfl t5) (.inl (put (Keeps.refl _ _) (by omega) rfl))
    | 8,_,hdep,_=>
     have g1:a.eval (.tmp 21)=.slice (some ⟨w.heap.size+1,0,none⟩) m.rels.length m.rels.length:=got 6 (by omega) (hdep _ rfl ⟨6,.data⟩ (by simp) rfl)
     have g2:a.eval (.tmp 22)=.int .i64 (pre.length:Int):=got 7 (by omega) (hdep _ rfl ⟨7,.data⟩ (by simp) rfl)
     have hpI:(pre.length:Int)<m.rels.length:=by omega
     exact opIn_val rfl rfl (by intro c h;cases h) (ix40 rfl g1 g2 hpI) (.inl (put (Keeps.refl _ _) (by omega) rfl))
    | 9,_,hdep,_=>
     have g1:a.eval (.tmp 23)=.pointer (some ⟨w.heap.size+1,pre.length,none⟩):=got 8 (by omega) (hdep _ rfl ⟨8,.data⟩ (by simp) rfl)
     have c:u.cell? ⟨w.heap.size+1,pre.length,none⟩=some (.int .i64 (r.layer:Int)):=by rw [(eL.keeps keep (by simp)).cell,hrl];exact natC_at (by omega)
     exact opIn_val rfl rfl (by intro c h;cases h) (ld3 rfl g1 c) (.inl (put (Keeps.refl _ _) (by omega) rfl))
    | 10,_,hdep,_=>
     have g1:a.eval (.tmp 17)=.string r.name:=got 2 (by omega) (hdep _ rfl ⟨2,.data⟩ (by simp) rfl)
     have g2:u.ownsRow W.heap.size 3 1 (a.eval (.tmp 20)) r.sizes.length (intsV r.sizes):=got 5 (by omega) (hdep _ rfl ⟨5,.data⟩ (by simp) rfl)
     have g3:a.eval (.tmp 24)=.int .i64 (r.layer:Int):=got 9 (by omega) (hdep _ rfl ⟨9,.data⟩ (by simp) rfl)
     obtain ⟨sa,sc,hsv⟩:=ownE_len g2
     rw [hsv] at g2
     exact opIn_val rfl rfl (by intro c h;cases h) (bd144 rfl g1 hsv g3) (.inl (put (Keeps.refl _ _) (by omega) ⟨_,rfl,g2⟩))
    | 11,_,hdep,_=>
     obtain ⟨sv,g1,g2⟩:∃ sv,a.eval (.tmp 25)=.agg #[.string r.name,sv,.int .i64 (r.layer:Int)]∧u.ownsRow W.heap.size 3 1 sv r.sizes.length (intsV r.sizes):=got 10 (by omega) (hdep _ rfl ⟨10,.data⟩ (by simp) rfl)
     obtain ⟨sa,sc,hsv⟩:=ownE_len g2
     subst hsv
     have kA:=Keeps.alloc [] u (.cells #[.string r.name,.slice sa r.sizes.length sc,.int .i64 (r.layer:Int)] 144)
     exact opIn_val rfl rfl (by intro c h;cases h) (bs123 rfl g1) (.inl (put kA (by omega) ⟨_,u.heap.size,rfl,CellsAt.new u _ 144,keep.size,ownsRow_kept g2 kA (by simp)⟩))
    | 12,_,hdep,_=>
     have g0:a.eval (.tmp 15)=v:=got 0 (by omega) (hdep _ rfl ⟨0,.data⟩ (by simp) rfl)
     obtain ⟨sv,g,g1,g2,g3,g4⟩:∃ sv g,a.eval (.tmp 26)=.slice (some ⟨g,0,none⟩) 1 1∧CellsAt u g #[.string r.name,sv,.int .i64 (r.layer:Int)]∧W.heap.size≤g∧u.ownsRow W.heap.size 3 1 sv r.sizes.length (intsV r.sizes):=got 11 (by omega) (hdep _ rfl ⟨11,.data⟩ (by simp) rfl)
     have hzu:=keep.size
     obtain ⟨nv, u', hrun, hown', hgrow, hat⟩ := run_append (o := ⟨some 27, .call { callee := .builtin .append, args := #[.tmp 15, .tmp 26], argTypes := #[123, 123] }, 123, "meaning.go:122", #[⟨0, .data⟩, ⟨11, .data⟩, ⟨5, .chain⟩], none⟩) (a := a) (w := u) (base := W5.heap.size) (n := pre.length) (news := [.string r.name, sv, .int .i64 (r.layer : Int)]) rfl g0 g1 Tryz.underlying123 hi0 hz0 hz1 hz2 rfl (by decide) (ownsRow_kept Hown.out keep (by simp)) (by simp) (fun j x hx => by
      rw [Addr.add_lit,Nat.zero_add,g2.cell]
      match j with
      | 0=>simpa using hx
      | 1=>simpa using hx
      | 2=>simpa using hx
      | j+3=>simp at hx) (by
      obtain ⟨sa,sc,hsv⟩:=ownE_len g4
      subst hsv
      simp [Value.oneCell']) (by unfold maxLen;omega) (by omega) (by omega)
     refine opIn_val rfl rfl (by intro c h;cases h) hrun (.inr (.inl ⟨?_,?_,?_,nv,?_,?_⟩))
     ·rw [Array.getD_eq_getD_getElem?,Array.getElem?_setIfInBounds,if_pos rfl,if_pos (by rw [hF.room];omega)];rfl
     ·rw [listed_keep (by omega)];exact hF.more.2
     ·exact (put_eval (d:=27) (j:=4) (by omega)).trans t4
     ·exact put_eval_same (by rw [hF.size];show 27<29;omega)
     ·have hvl2:∀ j∈ownL v,W5.heap.size≤j∧j<W.heap.size:=fun j hj=>ownL_at Hown.out j hj
      have hsvl:∀ j∈ownL sv,W.heap.size≤j∧j<u.heap.size:=fun j hj=>ownL_at g4 j hj
      have k6:=grownBy_keeps' hgrow (ownL v) (fun r e=>.inl (by simp [ownL,e]))
      have htk:(relsM m vals).take (pre.length+1)=(relsM m vals).take pre.length++[r]:=by rw [List.take_add_one,hrm];rfl
      have hr1:=(Hrv.out.keeps keep (by simp)).snoc (ownE_mono g4 hzW) (fun j hj q=>by have:=hvl2 j q;have:=hsvl j hj;omega)
      have hY:∀ j∈ownL nv++ownL v,j∈ownL v∨u.heap.size≤j:=fun j hj=>by
       rcases List.mem_append.1 hj with q | q
       ·rcases hat with p | p
        ·left;simp only [ownL] at q ⊢;rw [←p];exact q
        ·right;simp only [ownL] at q;rw [p] at q;simp at q;omega
       ·exact .inl q
      refine ⟨v,vs++[.string r.name,sv,.int .i64 (r.layer:Int)],(hc4.keeps keep (by simp)).keeps k6 (fun q=>by have:=(hvl2 _ q).1;omega),hown',?_,(kW.trans (keep.mono (by simp))).trans_new k6 (fun j hj=>.inr (hvl2 j hj).1),(keep.grows (by simp)).trans (k6.growsRow (fun j hj=>.inr ?_)),fun j hj=>?_⟩
      ·rw [htk]
       exact ((hr1.apart hY).keeps k6 (fun j hj=>.inl (List.mem_append_right _ hj))).apart (fun j hj=>.inl (List.mem_append_left _ hj))
      ·obtain ⟨b1,cs,t,b2⟩:=ownE_base (ownsRow_kept Hown.out keep (by simp)) j (by simpa [ownL] using hj)
       exact ⟨b1,cs,t,_,b2⟩
      ·have:=(ownL_at hown' j hj).1;omega
    | 13,_,hdep,_=>
     have:=hdep _ rfl ⟨12,.data⟩ (by simp) rfl
     rw [hF.more.1] at this
     cases this
   ·have l0:=hcl 12 h12 _ rfl ⟨0,.data⟩ (by simp) rfl
    have l11:=hcl 12 h12 _ rfl ⟨11,.data⟩ (by simp) rfl
    have l10:=hcl 11 l11 _ rfl ⟨10,.data⟩ (by simp) rfl
    have l2:=hcl 10 l10 _ rfl ⟨2,.data⟩ (by simp) rfl
    have l5:=hcl 10 l10 _ rfl ⟨5,.data⟩ (by simp) rfl
    have l9:=hcl 10 l10 _ rfl ⟨9,.data⟩ (by simp) rfl
    have l8:=hcl 9 l9 _ rfl ⟨8,.data⟩ (by simp) rfl
    have l6:=hcl 8 l8 _ rfl ⟨6,.data⟩ (by simp) rfl
    have l7:=hcl 8 l8 _ rfl ⟨7,.data⟩ (by simp) rfl
    have l3:=hcl 5 l5 _ rfl ⟨3,.data⟩ (by simp) rfl
    have l4:=hcl 5 l5 _ rfl ⟨4,.data⟩ (by simp) rfl
    have l1:=hcl 2 l2 _ rfl ⟨1,.data⟩ (by simp) rfl
    match i,hi14,hin with
    | 0,_,q=>rw [l0] at q;cases q
    | 1,_,q=>rw [l1] at q;cases q
    | 2,_,q=>rw [l2] at q;cases q
    | 3,_,q=>rw [l3] at q;cases q
    | 4,_,q=>rw [l4] at q;cases q
    | 5,_,q=>rw [l5] at q;cases q
    | 6,_,q=>rw [l6] at q;cases q
    | 7,_,q=>rw [l7] at q;cases q
    | 8,_,q=>rw [l8] at q;cases q
    | 9,_,q=>rw [l9] at q;cases q
    | 10,_,q=>rw [l10] at q;cases q
    | 11,_,q=>rw [l11] at q;cases q
    | 12,_,q=>rw [h12] at q;cases q
    | 13,_,_=>
     obtain ⟨v0,vs0,hb4,hown0,hrv0,k50,hg0,hne0⟩:=hD
     obtain ⟨na,nc,hnv2⟩:=ownE_len hown0
     subst hnv2
     have c:=hb4.cell 0
     have f:=hb4.frozen 0
     have ks:=Keeps.setCell u ⟨w1.heap.size+1,0,none⟩ (.slice na (pre.length+1) nc)
     refine opIn_skip rfl rfl (by intro c h;cases h) (st123 rfl hp4 hnv c f) (.inr (.inr ⟨?_,⟨k50.trans ks,.slice na (pre.length+1) nc,vs0,hb4.setCell 0 _,?_,?_⟩,hg0.trans (ks.grows (by simp))⟩))
     ·rw [Array.getD_eq_getD_getElem?,Array.getElem?_setIfInBounds,if_pos rfl,if_pos (by rw [hlz];show 13<14;omega)];rfl
     ·rw [List.length_append,List.length_singleton]
      exact ownsRow_kept hown0 ks (fun j hj q=>hne0 j (by simp [ownL,hj]) (by simpa using q))
     ·rw [List.length_append,List.length_singleton]
      exact hrv0.keeps ks (fun j hj=>.inr (.inl (by have e:j=w1.heap.size+1:=(by simpa using hj);omega)))
   ·have all:∀ k,k<13→listed.getD k false=true:=fun k hk=>hcl 13 h13 _ rfl ⟨k,.phase⟩ (by
     match k,hk with
     | 0,_=>simp
     | 1,_=>simp
     | 2,_=>simp
     | 3,_=>simp
     | 4,_=>simp
     | 5,_=>simp
     | 6,_=>simp
     | 7,_=>simp
     | 8,_=>simp
     | 9,_=>simp
     | 10,_=>simp
     | 11,_=>simp
     | 12,_=>simp) rfl
    exfalso
    have hi14':i<14:=hi14
    rcases Nat.lt_or_ge i 13 with q | q
    ·rw [all i q] at hin;cases hin
    ·have e:i=13:=by omega
     rw [e,h13] at hin;cases hin
  ·intro listed a u hS hall
   have h12:=hall 12 (show 12<14 by omega)
   have h13:=hall 13 (show 13<14 by omega)
   rcases hS with hF | ⟨_,h,_⟩ | ⟨_,h1,h2⟩
   ·rw [hF.more.1] at h12;cases h12
   ·rw [h] at h13;cases h13
   ·exact ⟨by rw [←z5];exact h1,by rw [←z5];exact h2⟩
 case done=>
  rintro xs W hG ⟨kW,v,vs,hc4,hown,hrv⟩ hk hlt hD
  have hG':xs.length=m.rels.length:=by have:xs.length=(m.rels.map Prod.fst).length:=hG;rw [List.length_map] at this;exact this
  rw [hG'] at hown hrv
  rw [List.take_of_length_le (by rw [relsM_len];exact Nat.le_refl _)] at hrv
  have c0:=hc4.cell 0
  simp at c0
  have Hown:=hide hown
  have Hrv:=hide hrv
  have HLI:=hide hLI
  have HLs:=hide hLs
  clear hown hrv hit
  gi_wp2_with fail
  refine ⟨by simp,.inl ⟨_,_,rfl,run_takeDeferred hD,?_⟩⟩
  refine ⟨_,results_tmp rfl _ _ _,⟨vals,v,vs,HLI.out,HLs.out,rfl,?_,?_⟩,?_⟩
  ·refine ownE_mono (ownsRow_kept Hown.out (Keeps.putObj W W5.heap.size _) ?_) (by omega)
   intro j hj x
   have e:j=W5.heap.size:=(by simpa using x)
   obtain ⟨b1,cs,t,b2⟩:=ownE_base Hown.out j hj
   rw [e,hD] at b2
   cases b2
  ·exact Hrv.out.noCells (Keeps.putObj W W5.heap.size _) (by rw [hD];intro _ _ _ e;cases e) (by omega)
  ·refine ((Hkw.out.trans_new hk ?_).trans_new (Keeps.putObj W W5.heap.size _) ?_)
   ·intro j hj;have e:j=w1.heap.size+1:=(by simpa using hj);exact .inr (by omega)
   ·intro j hj;have e:j=W5.heap.size:=(by simpa using hj);exact .inr (by omega)
theorem rels_calls {w:World} {mb B:Nat} {m:Mean} (hm:MeanAt w mb B m) (hok:MeanOk m) (hnc:∀ c∈m.clauses,circleC m.rels.length (edgesM m.clauses) c=false) (hnm:∀ r∈m.rels,r.1.size≤1000000):Calls Tryz.prog 138 #[.pointer (some ⟨B,0,none⟩)] w fun e w'=>(∃ vals v vs,LayI m.clauses m.rels.length vals∧StableG layG m.clauses vals∧e=.returned v∧w'.ownsRow w.heap.size 144 3 v m.rels.length vs∧RelVs w' w.heap.size (ownL v) (relsM m vals) vs)∧Keeps [] w w':=
 callsIn_wide.1 (rels_in 0 hm hok hnc hnm)
end
end Go.Proofs.YtgjomknpjigkhaaGreatDoor
