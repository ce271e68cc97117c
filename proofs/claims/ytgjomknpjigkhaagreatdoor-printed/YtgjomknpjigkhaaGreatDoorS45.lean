import Derived.Test.YtgjomknpjigkhaaGreatDoorS44
namespace Go.Proofs.YtgjomknpjigkhaaGreatDoor
set_option maxRecDepth 100000
set_option maxHeartbeats 4000000
section
open Go.RowKit Go.Shelf
attribute [local go_sem] Oper.semAt_some
def RowT (W:World) (g n:Nat) (l:List Nat):Prop:=∃ cs,CellsT W g cs∧TupC cs n (fun p=>l.getD p 0)
theorem RowT.still {W W':World} {b g n:Nat} {l:List Nat} (h:RowT W g n l) (k:Still b W W'):RowT W' g n l:=by
 obtain ⟨cs,h1,h2⟩:=h
 exact ⟨cs,(k.block g (Array.getElem?_eq_some_iff.1 h1).1 (.inr ⟨_,_,_,h1⟩)).trans h1,h2⟩
theorem RowT.keeps {W W':World} {g n:Nat} {l T:List Nat} (h:RowT W g n l) (k:Keeps T W W') (hg:g∉T):RowT W' g n l:=by
 obtain ⟨cs,h1,h2⟩:=h
 exact ⟨cs,h1.keeps k hg,h2⟩
def eTu (n:Nat) (x:List Nat×Nat):Array Value:=#[.slice (some ⟨x.2,0,none⟩) n n]
def tupY (n y:Nat):List Nat:=tupF (asg (y:Int)) 0 n
def tupsOf (S:ST) (f:Int) (n:Nat):List (List Nat):=(S.trues f (3 * n)).map (tupY n)
theorem trues_lt {S:ST} {f:Int} {n y:Nat} (h3:n≤3) (h:y∈S.trues f (3 * n)):y<4096:=by
 unfold ST.trues at h
 obtain ⟨z,hz,rfl⟩:=asgs_mem (List.mem_filter.1 h).1
 have:2 ^ (3 * n)≤2 ^ 9:=Nat.pow_le_pow_right (by decide) (by omega)
 simp;omega
def tupφ (w:World) (l pr y n cc:Nat) (sa:Option Addr) (j:Nat) (v:Value) (u:World):Prop:=match j with
 | 0=>v=.func (.yield l) #[] #[]
 | 1=>v=.int .i64 (y:Int)
 | 2=>v=.pointer (some ⟨pr,0,none⟩)
 | 3=>v=.slice sa n cc
 | 4=>v=.int .i64 (n:Int)
 | 5=>∃ g,v=.slice (some ⟨g,0,none⟩) n n∧w.heap.size≤g∧RowT u g n (tupY n y)
 | _=>True
theorem tupφ_keeps {w:World} {l pr y n cc:Nat} {sa:Option Addr} (j:Nat) (v:Value) (u u':World) (h:tupφ w l pr y n cc sa j v u) (k:Keeps [] u u'):tupφ w l pr y n cc sa j v u':=by
 match j,h with
 | 0,h=>exact h
 | 1,h=>exact h
 | 2,h=>exact h
 | 3,h=>exact h
 | 4,h=>exact h
 | 5,h=>
  obtain ⟨g,h1,h2,h3⟩:=h
  exact ⟨g,h1,h2,h3.keeps k (by simp)⟩
 | _+6,_=>trivial
def TupFin (w:World) (l:Nat) (T:List Nat) (W':World) (J:List (List Nat×Nat)→World→Prop) (pre:List (List Nat×Nat)) (x:List Nat) (u:World):Prop:=∃ g,J (pre++[(x,g)]) u∧GrT w.heap.size 40 (l :: T) W' u
theorem ld158 {o:Oper} {a:Act} {u:World} {x:Operand} {b k:Nat} {v:Value} (hop:o.op=.load 158 x) (hx:a.eval x=.pointer (some ⟨b,k,none⟩)) (c:u.cell? ⟨b,k,none⟩=some v):(execOp a.eval o).run Tryz.prog u=.ok (.value v) u:=by
 simp only [execOp,hop,hx]
 go_simp
theorem fa148 {o:Oper} {a:Act} {u:World} {x:Operand} {b:Nat} (hop:o.op=.fieldAddr 148 x 0) (hx:a.eval x=.pointer (some ⟨b,0,none⟩)):(execOp a.eval o).run Tryz.prog u=.ok (.value (.pointer (some ⟨b,0,none⟩))) u:=by
 simp only [execOp,hop,hx]
 go_simp
theorem len40 {o:Oper} {ev:Operand→Value} {u:World} {x:Operand} {sa:Option Addr} {n cc:Nat} (hop:o.op=.call { callee:=.builtin .len,args:=#[x],argTypes:=#[40] }) (hx:ev x=.slice sa n cc):(execOp ev o).run Tryz.prog u=.ok (.value (.int .i64 (n:Int))) u:=by
 simp only [execOp,hop]
 go_simp
theorem not4 {o:Oper} {a:Act} {u:World} {x:Operand} (hop:o.op=.unOp .not 4 x) (hx:a.eval x=.bool true):(execOp a.eval o).run Tryz.prog u=.ok (.value (.bool false)) u:=by
 simp only [execOp,hop,hx]
 go_simp
theorem run_yld {o:Oper} {ev:Operand→Value} {u:World} {x z:Operand} {l:Nat} {v:Value} {fn:FuncId} {tm:Array Value} {asc bo:Code} (hop:o.op=.call { callee:=.value x,args:=#[z],argTypes:=#[40] }) (hx:ev x=.func (.yield l) #[] #[]) (hz:ev z=v) (h:(Instr.yield l #[v]).run Tryz.prog u=.ok (.round l fn tm asc bo) u):(execOp ev o).run Tryz.prog u=.ok (.round l fn tm asc bo) u:=by
 simp only [execOp,hop]
 go_simp
theorem tup_iter {w:World} {B:SB} {S:ST} (hE0:EngS w B S) {pb pr bb n cc:Nat} {sa:Option Addr} {v1 v2 v4:Value} {f:Int} {R:List Nat→Prop} (hpb0:CellsAt w pb #[.pointer (some ⟨bb,0,none⟩)]) (hpr0:CellsAt w pr #[.slice sa n cc,v1,v2,.int .i64 f,v4]) (hbs0:BsAt w bb B) (hf:Rep S f n R) (h1:1≤n) (h3:n≤3) (T:List Nat) (hT:∀ t∈T,t<w.heap.size∧t∉B.own∧t≠pb∧t≠pr∧t≠bb) :
  IterT 40 w.heap.size 78 #[.pointer (some ⟨pb,0,none⟩),.pointer (some ⟨pr,0,none⟩)] (eTu n) (fun pre x W=>(pre++[x]).map (·.1) <+: tupsOf S f n∧w.heap.size≤x.2∧RowT W x.2 n x.1) (fun xs=>xs.map (·.1)=tupsOf S f n) T w:=by
 intro n' l J W hl hlW hb hJ hY h0
 have hE:=hE0.sat.of_heap (w':=W) (fun i hi=>hb.block i (hE0.sat.lt i hi))
 have hpb:=hpb0.of_heap (w':=W) (hb.block pb hpb0.lt)
 have hpr:=hpr0.of_heap (w':=W) (hb.block pr hpr0.lt)
 have hbs:W.cell? ⟨bb,4,none⟩=some (.pointer (some ⟨B.b,0,none⟩)):=by
  have e:=hb.block bb hbs0.lt
  have:=hbs0.cell
  simp only [World.cell?,e] at this ⊢
  exact this
 have kY:=Keeps.alloc [] W (.cells #[.func (.yield l) #[] #[]] 158)
 have hYc:(W.alloc (.cells #[.func (.yield l) #[] #[]] 158)).heap[W.heap.size]?=some (.cells #[.func (.yield l) #[] #[]] 158 (0,0)):=World.alloc_heap_new W _
 have zY:=sizeE_alloc W (.cells #[.func (.yield l) #[] #[]] 158)
 have hEY:=hE.keeps kY (by simp)
 have q0:=(hpb.keeps kY (by simp)).cell 0
 have q3:=(hpr.keeps kY (by simp)).cell 3
 have q00:=(hpr.keeps kY (by simp)).cell 0
 have q4:(W.alloc (.cells #[.func (.yield l) #[] #[]] 158)).cell? ⟨bb,4,none⟩=some (.pointer (some ⟨B.b,0,none⟩)):=by
  have hblt:bb<W.heap.size:=Nat.lt_of_lt_of_le hbs0.lt hb.size
  rw [cell_kept kY hblt (by simp)];exact hbs
 simp at q0 q3 q00
 generalize hWY:W.alloc (.cells #[.func (.yield l) #[] #[]] 158)=WY at *
 have hv:=hide (rvars_calls WY.drew pr 0 n sa cc (by omega) q00)
 refine callsIn_of_wp_marks Tryz.func78 rfl trivial ?_ rfl
 simp only [Tryz.ntmps78,List.size_toArray,List.length_cons,List.length_nil,Nat.reduceAdd,Nat.reduceSub,Array.replicate_succ,Array.replicate_zero,List.push_toArray,List.append_toArray,List.nil_append,List.cons_append]
 refine wpIn_wide.2 ?_
 have hk9:3 * n≤9:=by omega
 generalize hk3:3 * n=k at hv hk9
 go_wp2_with fail
 refine wp_quietV 7 (by kernel_rfl) (by kernel_rfl) ?_
 simp only [List.take_succ_cons,List.take_zero,List.drop_succ_cons,List.drop_zero]
 repeat (first | go_big_quiet_step (fail) | (go_big_quiet_want;go_big_quiet_op;apply Exists.intro;refine And.intro (hv.out) ?_;go_big_quiet_on))
 refine wpQuiet_nil ?_
 go_wp2_with fail
 refine (trues_calls _ _ _ _).mono ?_
 rintro e W2 ⟨rfl,rfl⟩
 go_wp2_with fail
 have kp:=Keeps.alloc [] WY (.cells #[.pointer (some ⟨B.b,0,none⟩)] 135)
 have hp:=CellsAt.new WY #[.pointer (some ⟨B.b,0,none⟩)] 135
 have kq:=Keeps.alloc [] (WY.alloc (.cells #[.pointer (some ⟨B.b,0,none⟩)] 135)) (.cells #[.int .i64 f] 3)
 have hq:=CellsAt.new (WY.alloc (.cells #[.pointer (some ⟨B.b,0,none⟩)] 135)) #[.int .i64 f] 3
 have ku:=Keeps.alloc [] ((WY.alloc (.cells #[.pointer (some ⟨B.b,0,none⟩)] 135)).alloc (.cells #[.int .i64 f] 3)) (.cells #[.int .i64 (k:Int)] 3)
 have hu:=CellsAt.new ((WY.alloc (.cells #[.pointer (some ⟨B.b,0,none⟩)] 135)).alloc (.cells #[.int .i64 f] 3)) #[.int .i64 (k:Int)] 3
 simp only [World.size_alloc,zY] at hp hq hu
 have kd:=Keeps.drew [] (((WY.alloc (.cells #[.pointer (some ⟨B.b,0,none⟩)] 135)).alloc (.cells #[.int .i64 f] 3)).alloc (.cells #[.int .i64 (k:Int)] 3))
 have k4:=((kp.trans kq).trans ku).trans kd
 have hp4:=((hp.keeps kq (by simp)).keeps ku (by simp)).keeps kd (by simp)
 have hq4:=(hq.keeps ku (by simp)).keeps kd (by simp)
 have hu4:=hu.keeps kd (by simp)
 have z4:((((WY.alloc (.cells #[.pointer (some ⟨B.b,0,none⟩)] 135)).alloc (.cells #[.int .i64 f] 3)).alloc (.cells #[.int .i64 (k:Int)] 3)).drew).heap.size=W.heap.size+1+1+1+1:=by simp [zY]
 clear kp kq ku kd hp hq hu
 generalize (((WY.alloc (.cells #[.pointer (some ⟨B.b,0,none⟩)] 135)).alloc (.cells #[.int .i64 f] 3)).alloc (.cells #[.int .i64 (k:Int)] 3)).drew=W4 at *
 have kW4:Keeps [] W W4:=kY.trans k4
 have hS4:=hEY.keeps k4 (by simp)
 have hHk:Hk k S f:=by rw [←hk3];exact hf.hk
 have hit:=trues_iterT 40 w.heap.size hS4 hE0.sat.lt hE0.wf hE0.idn hE0.ho hE0.n hE0.co (W.heap.size+1) (W.heap.size+1+1) (W.heap.size+1+1+1) f k hp4 hq4 hu4 hf.1 hHk hk9 (l :: T) (fun t ht=>by
  have hsz:=hb.size
  rcases List.mem_cons.1 ht with rfl | ht
  ·exact ⟨by omega,fun hm=>by have:=hE0.sat.lt _ hm;omega⟩
  ·exact ⟨by have:=(hT t ht).1;omega,(hT t ht).2.1⟩)
 have hY4:W4.heap[W.heap.size]?=some (.cells #[.func (.yield l) #[] #[]] 158 (0,0)):=(k4.block _ (by omega) (by simp)).trans hYc
 have hpr4:=(hpr.keeps kY (by simp)).keeps k4 (by simp)
 have hJ4:J [] W4:=hJ _ _ _ h0 (kW4.still (by simp))
 refine (wpIn_wide (n:=0)).1 ?_
 refine range_lawT (gf:=153) (lb:=#[.pointer (some ⟨W.heap.size+1,0,none⟩),.pointer (some ⟨W.heap.size+1+1,0,none⟩),.pointer (some ⟨W.heap.size+1+1+1,0,none⟩)]) rfl (enters_of Tryz.func153 (by kernel_rfl) rfl) (T:=l :: T) (fun t ht=>by
   have hsz:=hb.size
   rcases List.mem_cons.1 ht with rfl | ht
   ·omega
   ·have:=(hT t ht).1;omega) hit (fun _ _ _ _ h _=>h) (fun _=>rfl)
  (fun ys W'=>∃ pre:List (List Nat×Nat),pre.map (·.1)=ys.map (tupY n)∧J pre W'∧W'.heap[W.heap.size]?=some (.cells #[.func (.yield l) #[] #[]] 158 (0,0))∧CellsAt W' pr #[.slice sa n cc,v1,v2,.int .i64 f,v4])
  (fun ys W1 W2 h hs=>by
   obtain ⟨pre,a,b,c,d⟩:=h
   exact ⟨pre,a,hJ _ _ _ b (hs.mono (by omega)),(hs.block _ (Array.getElem?_eq_some_iff.1 c).1 (.inr ⟨_,_,_,c⟩)).trans c,by
    obtain ⟨t,ht⟩:=d
    exact ⟨t,(hs.block _ (Array.getElem?_eq_some_iff.1 ht).1 (.inr ⟨_,_,_,ht⟩)).trans ht⟩⟩) ⟨[],rfl,hJ4,hY4,hpr4⟩
  (fun y a' _=>a' = { tmps:=#[.func (.yield l) #[] #[],.pointer (some ⟨pb,0,none⟩),.pointer (some ⟨pr,0,none⟩),.pointer (some ⟨W.heap.size,0,none⟩),.int .i64 (y:Nat),.pointer (some ⟨bb,0,none⟩),.pointer (some ⟨bb,0,none⟩),.pointer (some ⟨bb,4,none⟩),.pointer (some ⟨B.b,0,none⟩),.pointer (some ⟨pr,3,none⟩),.int .i64 f,.int .i64 (k:Int),.func (.func 153) #[] #[.pointer (some ⟨W.heap.size+1,0,none⟩),.pointer (some ⟨W.heap.size+1+1,0,none⟩),.pointer (some ⟨W.heap.size+1+1+1,0,none⟩)],.int .i64 (y:Nat),undef,undef,undef,undef,undef,undef,undef,undef],defers:=[] })
  (fun _ _ _ _ h _=>h) ?assign ?body ?done
 case assign=>
  intro l1 ys y W' K hlt hi hc hK
  gi_wp2
  exact hK _ _ (by simp [eA]) (Keeps.refl _ _)
 case body=>
  rintro l1 ys y a' W' hlt ⟨pre,hpre,hJp,hYc',hpr'⟩ hc rfl
  have hy:y<4096:=trues_lt h3 (f:=f) (S:=S) (by rw [hk3];exact hc.subset (by simp))
  have htu:=hide (fun (U:World)=>tuple_calls (w:=U) y n hy h1 h3)
  have e0:W'.cell? ⟨W.heap.size,0,none⟩=some (.func (.yield l) #[] #[]):=(show CellsAt W' W.heap.size #[.func (.yield l) #[] #[]] from ⟨_,hYc'⟩).cell 0
  have e1:=hpr'.cell 0
  simp at e1
  have hfol:Tryz.prog.follows .mixedOrders=true:=by kernel_rfl
  have hpx:∀ g:Nat,((pre++[(tupY n y,g)]).map (·.1)) <+: tupsOf S f n:=fun g=>by
   rw [List.map_append,hpre]
   have:=hc.map (tupY n)
   rw [List.map_append] at this
   unfold tupsOf
   rw [hk3]
   exact this
  have hyl:=hide (fun (U:World) (g:Nat) (hg:w.heap.size≤g) (k:Keeps [] W' U) (hr:RowT U g n (tupY n y))=>yieldAt_wide (m':=0 - 1) (hY pre (tupY n y,g) U (hJ _ _ _ hJp (k.still (by simp))) ⟨hpx g,hg,hr⟩))
  have hwW:w.heap.size≤W'.heap.size:=by have:=hb.size;omega
  gi_wp2_with fail
  refine wpIn_region_flow (S:=fun listed a u=>Flow 14 6 (tupφ w l pr y n cc sa) { tmps:=#[.func (.yield l) #[] #[],.pointer (some ⟨pb,0,none⟩),.pointer (some ⟨pr,0,none⟩),.pointer (some ⟨W.heap.size,0,none⟩),.int .i64 (y:Nat),.pointer (some ⟨bb,0,none⟩),.pointer (some ⟨bb,0,none⟩),.pointer (some ⟨bb,4,none⟩),.pointer (some ⟨B.b,0,none⟩),.pointer (some ⟨pr,3,none⟩),.int .i64 f,.int .i64 (k:Int),.func (.func 153) #[] #[.pointer (some ⟨W.heap.size+1,0,none⟩),.pointer (some ⟨W.heap.size+1+1,0,none⟩),.pointer (some ⟨W.heap.size+1+1+1,0,none⟩)],.int .i64 (y:Nat),undef,undef,undef,undef,undef,undef,undef,undef],defers:=[] } W' listed a u
    ∨ (listed.getD 6 false=true∧listed.getD 7 false=false∧a.eval (.tmp 20)=.bool true∧a.tmps.size=22∧TupFin w l T W' J pre (tupY n y) u)
    ∨ (listed.getD 7 false=true∧a.eval (.tmp 21)=.bool false∧TupFin w l T W' J pre (tupY n y) u)) hfol (by kernel_rfl) ?_ ?_ ?_
  ·exact .inl ⟨rfl,fun _ _=>rfl,rfl,Keeps.drew [] W',fun j hj hl=>(by rw [replicate_no] at hl;cases hl),rfl,replicate_no _ _,replicate_no _ _⟩
  ·intro listed a u i hS hcl hlz hi8 hin hdep
   rcases hS with hF | ⟨h6,h7,h20,hsz,hD⟩ | ⟨h7,_⟩
   ·have put:=fun {j:Nat} {u':World} {v':Value} (k:Keeps [] u u') (hj:j<6) (hv:tupφ w l pr y n cc sa j v' u')=>hF.put (i:=j) (tupφ_keeps (w:=w) (l:=l) (pr:=pr) (y:=y) (n:=n) (cc:=cc) (sa:=sa)) k hj (show 20≤22 by omega) hv
    have keep:=hF.keep
    have t2:a.eval (.tmp 2)=.pointer (some ⟨pr,0,none⟩):=hF.low 2 (by omega)
    have t3:a.eval (.tmp 3)=.pointer (some ⟨W.heap.size,0,none⟩):=hF.low 3 (by omega)
    have t4:a.eval (.tmp 4)=.int .i64 (y:Int):=hF.low 4 (by omega)
    have got:=fun (j:Nat) (hj:j<6) (hl:listed.getD j false=true)=>hF.got j hj hl
    match i,hi8,hdep,hin with
    | 0,_,hdep,_=>
     have c:=((show CellsAt W' W.heap.size #[.func (.yield l) #[] #[]] from ⟨_,hYc'⟩).keeps keep (by simp)).cell 0
     exact opIn_val rfl rfl (by intro c h;cases h) (ld158 rfl t3 c) (.inl (put (Keeps.refl _ _) (by omega) rfl))
    | 1,_,hdep,_=>exact opIn_val rfl rfl (by intro c h;cases h) (run_move rfl t4) (.inl (put (Keeps.refl _ _) (by omega) rfl))
    | 2,_,hdep,_=>exact opIn_val rfl rfl (by intro c h;cases h) (fa148 rfl t2) (.inl (put (Keeps.refl _ _) (by omega) rfl))
    | 3,_,hdep,_=>
     have g1:a.eval (.tmp 16)=.pointer (some ⟨pr,0,none⟩):=got 2 (by omega) (hdep _ rfl ⟨2,.data⟩ (by simp) rfl)
     have c:=(hpr'.keeps keep (by simp)).cell 0
     exact opIn_val rfl rfl (by intro c h;cases h) (ld40 rfl g1 c) (.inl (put (Keeps.refl _ _) (by omega) rfl))
    | 4,_,hdep,_=>
     have g1:a.eval (.tmp 17)=.slice sa n cc:=got 3 (by omega) (hdep _ rfl ⟨3,.data⟩ (by simp) rfl)
     exact opIn_val rfl rfl (by intro c h;cases h) (len40 rfl g1) (.inl (put (Keeps.refl _ _) (by omega) rfl))
    | 5,_,hdep,_=>
     have g1:a.eval (.tmp 15)=.int .i64 (y:Int):=got 1 (by omega) (hdep _ rfl ⟨1,.data⟩ (by simp) rfl)
     have g2:a.eval (.tmp 18)=.int .i64 (n:Int):=got 4 (by omega) (hdep _ rfl ⟨4,.data⟩ (by simp) rfl)
     refine opIn_call rfl rfl (by intro c h;cases h) (run_call 81 _ _ rfl _ Tryz.func81 (by kernel_rfl) (by kernel_rfl) [.int .i64 (y:Int),.int .i64 (n:Int)] (by simp [g1,g2])) (htu.out u) ?_
     rintro e u' ⟨rfl,⟨cs,hcs,htc⟩,ku⟩
     exact ⟨_,rfl,.inl (put ku (by omega) ⟨u.heap.size,rfl,by have:=keep.size;omega,cs,hcs,htc.ext (fun p hp=>by unfold tupY;rw [tupF_get _ hp])⟩)⟩
    | 6,_,hdep,_=>
     have g0:a.eval (.tmp 14)=.func (.yield l) #[] #[]:=got 0 (by omega) (hdep _ rfl ⟨0,.data⟩ (by simp) rfl)
     obtain ⟨g,g1,g2,g3⟩:∃ g,a.eval (.tmp 19)=.slice (some ⟨g,0,none⟩) n n∧w.heap.size≤g∧RowT u g n (tupY n y):=got 5 (by omega) (hdep _ rfl ⟨5,.data⟩ (by simp) rfl)
     obtain ⟨fn,tm,as5,bo5,hy5,hR5⟩:=hyl.out u g g2 keep g3
     refine opIn rfl rfl (by intro c h;cases h) ?_
     rw [run_yld rfl g0 g1 hy5]
     refine ⟨fun h=>(nomatch h),RoundIn.mono (F:=Fence.wide) hR5 ?_⟩
     rintro e u' ⟨rfl,hJ6,g6⟩
     refine .inr (.inl ⟨?_,?_,?_,?_,?_⟩)
     ·rw [Array.getD_eq_getD_getElem?,Array.getElem?_setIfInBounds,if_pos rfl,if_pos (by rw [hF.room];omega)];rfl
     ·rw [listed_keep (by omega)];exact hF.more.2
     ·exact put_eval_same (by rw [hF.size];show 20<22;omega)
     ·rw [put_size];exact hF.size
     ·exact ⟨g,hJ6,(keep.grT (by simp)).trans g6⟩
    | 7,_,hdep,_=>
     have:=hdep _ rfl ⟨6,.data⟩ (by simp) rfl
     rw [hF.more.1] at this
     cases this
   ·have l0:=hcl 6 h6 _ rfl ⟨0,.data⟩ (by simp) rfl
    have l5:=hcl 6 h6 _ rfl ⟨5,.data⟩ (by simp) rfl
    have l1:=hcl 5 l5 _ rfl ⟨1,.data⟩ (by simp) rfl
    have l4:=hcl 5 l5 _ rfl ⟨4,.data⟩ (by simp) rfl
    have l3:=hcl 4 l4 _ rfl ⟨3,.data⟩ (by simp) rfl
    have l2:=hcl 3 l3 _ rfl ⟨2,.data⟩ (by simp) rfl
    match i,hi8,hin with
    | 0,_,q=>rw [l0] at q;cases q
    | 1,_,q=>rw [l1] at q;cases q
    | 2,_,q=>rw [l2] at q;cases q
    | 3,_,q=>rw [l3] at q;cases q
    | 4,_,q=>rw [l4] at q;cases q
    | 5,_,q=>rw [l5] at q;cases q
    | 6,_,q=>rw [h6] at q;cases q
    | 7,_,_=>
     refine opIn_val rfl rfl (by intro c h;cases h) (not4 rfl h20) (.inr (.inr ⟨?_,?_,hD⟩))
     ·rw [Array.getD_eq_getD_getElem?,Array.getElem?_setIfInBounds,if_pos rfl,if_pos (by rw [hlz];show 7<8;omega)];rfl
     ·exact put_eval_same (by rw [hsz];omega)
   ·have l6:=hcl 7 h7 _ rfl ⟨6,.data⟩ (by simp) rfl
    have l0:=hcl 6 l6 _ rfl ⟨0,.data⟩ (by simp) rfl
    have l5:=hcl 6 l6 _ rfl ⟨5,.data⟩ (by simp) rfl
    have l1:=hcl 5 l5 _ rfl ⟨1,.data⟩ (by simp) rfl
    have l4:=hcl 5 l5 _ rfl ⟨4,.data⟩ (by simp) rfl
    have l3:=hcl 4 l4 _ rfl ⟨3,.data⟩ (by simp) rfl
    have l2:=hcl 3 l3 _ rfl ⟨2,.data⟩ (by simp) rfl
    match i,hi8,hin with
    | 0,_,q=>rw [l0] at q;cases q
    | 1,_,q=>rw [l1] at q;cases q
    | 2,_,q=>rw [l2] at q;cases q
    | 3,_,q=>rw [l3] at q;cases q
    | 4,_,q=>rw [l4] at q;cases q
    | 5,_,q=>rw [l5] at q;cases q
    | 6,_,q=>rw [l6] at q;cases q
    | 7,_,q=>rw [h7] at q;cases q
  ·intro listed a u hS hall
   have h6:=hall 6 (show 6<8 by omega)
   have h7:=hall 7 (show 7<8 by omega)
   rcases hS with hF | ⟨_,h,_⟩ | ⟨hx7,h21,g,hJ6,g6⟩
   ·rw [hF.more.1] at h6;cases h6
   ·rw [h] at h7;cases h7
   ·rename_i K hK
    clear hx7
    refine hK _ _ (wpIn_cond_false h21 (wpIn_skip ?_))
    have hlW':l≠W.heap.size:=by omega
    have hTW:∀ t∈l :: T,t≠W.heap.size:=fun t ht=>by
     have hsz:=hb.size
     rcases List.mem_cons.1 ht with rfl | ht
     ·omega
     ·have:=(hT t ht).1;omega
    have hTp:pr∉l :: T:=fun hm=>by
     have:=hpr0.lt
     rcases List.mem_cons.1 hm with e | hm
     ·omega
     ·exact (hT pr hm).2.2.2.1 rfl
    refine ⟨⟨pre++[(tupY n y,g)],by rw [List.map_append,List.map_append,hpre];rfl,hJ6,?_,?_⟩,g6⟩
    ·exact (g6.block _ (by omega) (fun hm=>hTW _ hm rfl) (fun q=>by obtain ⟨_,_,_,e⟩:=q;rw [hYc'] at e;cases e)).trans hYc'
    ·obtain ⟨t,ht⟩:=hpr'
     exact ⟨t,(g6.block _ (Array.getElem?_eq_some_iff.1 ht).1 hTp (fun q=>by have:=hpr0.lt;have:=q.1;omega)).trans ht⟩
 case done=>
  rintro xs W9 rfl ⟨pre,hpre,hJ9,hY9,hpr9⟩ hg9 hlt9 hD
  have kP:=Keeps.putObj W9 W4.heap.size (.deferred none)
  have sP:Still W.heap.size W9 (W9.putObj W4.heap.size (.deferred none)):=kP.still (by simp only [List.mem_singleton];rintro i rfl;exact ⟨by omega,by rw [hD];intro _ _ _ e;cases e⟩)
  have hJP:=hJ _ _ _ hJ9 sP
  have gP:GrT w.heap.size 40 (l :: T) W (W9.putObj W4.heap.size (.deferred none)):=(((kW4.grT (by simp)).trans (hg9.mono (fun i hi=>List.mem_cons_of_mem W4.heap.size hi))).trans (kP.grT (by simp))).drop (by omega)
  go_wp2_with fail
  refine ⟨by simp,.inl ⟨_,_,rfl,run_takeDeferred hD,?_⟩⟩
  exact ⟨_,results_none rfl _ _ _,⟨_,rfl⟩,pre,by rw [hpre,tupsOf,hk3],hJP,gP⟩
end
end Go.Proofs.YtgjomknpjigkhaaGreatDoor
