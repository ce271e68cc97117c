import Derived.Test.YtgjomknpjigkhaaGreatDoorU08
import Derived.Test.YtgjomknpjigkhaaGreatDoorU12
namespace Go.Proofs.YtgjomknpjigkhaaGreatDoor
open Go.Proofs.Tryz
set_option maxRecDepth 100000
set_option maxHeartbeats 4000000
section
open Go.RowKit Go.Shelf
attribute [local go_sem] Oper.semAt_some
theorem lQL (w:World) (gr o n:Nat) (sa:Option Addr) (cc:Nat) (hn:n≤100) (h0:w.cell? ⟨gr,o,none⟩=some (.slice sa n cc)):Calls prog 80 #[.pointer (some ⟨gr,o,none⟩)] w fun e w'=>e=.returned (.int .i64 ((3 * n:Nat):Int))∧w' = w:=by
 go_enter func80,ntmps80
 go_wp2
 go_ret
 exact ⟨by simp,rfl⟩
theorem add_in {w:World} {B:SB} {S:ST} (hE:EngS w B S) {bb gr o rm n cc:Nat} {sa:Option Addr} {cs:Array Value} {tu x rank:Int} {L:List (Int×Int)} {T X:List Nat→Prop} (hb:BsAt w bb B) (hc:cQA w gr cs) (c0:cs[o]?=some (.slice sa n cc)) (c3:cs[o+3]?=some (.int .i64 tu)) (c4:cs[o+4]?=some (.map (some rm))) (hm:cQB eI eI w rm L)
  (n3:n≤3) (ht:Rep S tu n T) (hx:Rep S x n X) (hg:gr∉B.own) (hr:rm∉B.own) (hgr:gr≠rm) (hgb:bb≠gr) (hrb:bb≠rm) (hl:S.next+4095<lim) :
  CallsIn Fence.wide 0 prog 261 #[.pointer (some ⟨bb,0,none⟩),.pointer (some ⟨gr,o,none⟩),.int .i64 x,.int .i64 rank] w fun e w'=>e=.returned (.tuple #[])∧∃ r S' L',EngS w' B S'∧cQA w' gr (cs.setIfInBounds (o+3) (.int .i64 r))∧cQB eI eI w' rm L'∧aQA (gr :: rm :: B.own) w w'∧Ext S S'∧S'.next≤S.next+4095∧Rep S' r n (fun l=>T l∨X l)∧∀ y:Nat,get L' (y:Int)=if y∈S'.trues x (3 * n) then some rank else get L (y:Int):=by
 have kA:=aQA.alloc [] w (.cells #[.pointer (some ⟨gr,o,none⟩)] 155);have hA:=cQA.new w #[.pointer (some ⟨gr,o,none⟩)] 155;have zA:=dQA w (.cells #[.pointer (some ⟨gr,o,none⟩)] 155);generalize hWA:w.alloc (.cells #[.pointer (some ⟨gr,o,none⟩)] 155)=WA at kA hA zA;have kB:=aQA.alloc [] WA (.cells #[.int .i64 rank] 3);have hB:=cQA.new WA #[.int .i64 rank] 3;have zB:=dQA WA (.cells #[.int .i64 rank] 3);rw [zA] at hB zB;generalize hWB:WA.alloc (.cells #[.int .i64 rank] 3)=WB at kB hB zB;have kk:=kA.trans kB;have hAB:=hA.keeps kB (by simp);have hcB:=hc.keeps kk (by simp);have hbB:=hb.keeps kk (by simp);have hEB:=hE.keeps0 kk;have hmB:=hm.kept kk (by simp);have hlt:=hc.lt;have hrt:=hm.lt;have hor:=hide (fun (W:World) (k:aQA [] WB W)=>or_E (hEB.keeps0 k) (f:=tu) (g:=x) ⟨ht.1,ht.2⟩ ⟨hx.1,hx.2⟩ hl);refine callsIn_of_wp_marks func261 rfl trivial ?_ rfl;simp only [ntmps261,List.size_toArray,List.length_cons,List.length_nil,Nat.reduceAdd,Nat.reduceSub,Array.replicate_succ,Array.replicate_zero,List.push_toArray,List.append_toArray,List.nil_append,List.cons_append];have g0:=hbB.cell;have g1:=hAB.cell 0;have g3:WB.cell? ⟨gr,o+3,none⟩=some (.int .i64 tu):=by rw [hcB.cell];exact c3
 simp at g1;refine wpIn_wide.2 ?_;have h1c:=hide (fun (W1:World) (k1:aQA B.own WB.drew W1)=>And.intro (((hAB.keeps (aQA.drew [] WB) (by simp)).keeps k1 (hE.sat.fresh (Nat.le_refl _))).cell 0) (And.intro (show W1.cell? ⟨gr,o+3,none⟩=some (.int .i64 tu) by rw [((hcB.keeps (aQA.drew [] WB) (by simp)).keeps k1 hg).cell];exact c3) (((hcB.keeps (aQA.drew [] WB) (by simp)).keeps k1 hg).frozen (o+3))));go_upto_region 1 with fail
 go_cut [] from 9 to 22 (fun wc=>∃ (r:Int) (S1:ST) (W1:World),EngS W1 B S1∧aQA B.own WB.drew W1∧Ext S S1∧S1.next≤S.next+4095∧RepB S1 r (fun σ=>T (tupF σ 0 n)∨X (tupF σ 0 n))∧wc=W1.setCell ⟨gr,o+3,none⟩ (.int .i64 r))
 case first=>
  refine wp_region_noPanic ?_
  go_region_law (refine kQA rfl 73 _ _ rfl _ func73 (by kernel_rfl) (by kernel_rfl) [.pointer (some ⟨B.b,0,none⟩),.int .i64 tu,.int .i64 x] rfl ?_
                 refine (hor.out _ (aQA.drew [] _)).mono ?_;rintro e W1 ⟨r,S1,rfl,hE1,k1,x1,n1,hr1⟩;obtain ⟨q0,q3,f3⟩:=h1c.out W1 k1
                 simp at q0)
  all_goals
   refine NoPanic.normal ?_;go_wp2_with fail
   go_meet
   exact ⟨r,S1,W1,hE1,k1,x1,n1,hr1,rfl⟩
 case rest=>
  obtain ⟨r,S1,W1,hE1,k1,x1,n1,hr1,rfl⟩:=hcut;have hc1:=(hcB.keeps (aQA.drew [] WB) (by simp)).keeps k1 hg;have hcS:=hc1.setCell (o+3) (.int .i64 r);have kS:=aQA.setCell W1 ⟨gr,o+3,none⟩ (.int .i64 r);have zS:(W1.setCell ⟨gr,o+3,none⟩ (.int .i64 r)).heap.size=W1.heap.size:=by simp
  have hneS:∀ j,j≠gr→j∉[gr]:=fun j hj=>by simpa using hj
  have hES:=hE1.keeps kS (fun j hj=>hneS j (fun e=>hg (e ▸ hj)));have hbS:=((hbB.keeps (aQA.drew [] WB) (by simp)).own k1).keeps kS (hneS _ hgb);have hzw:w.heap.size∉B.own:=hE.sat.fresh (Nat.le_refl _);have hzw1:w.heap.size+1∉B.own:=hE.sat.fresh (by omega);have hAS:=((hAB.keeps (aQA.drew [] WB) (by simp)).keeps k1 hzw).keeps kS (hneS _ (by omega));have hBS:=((hB.keeps (aQA.drew [] WB) (by simp)).keeps k1 hzw1).keeps kS (hneS _ (by omega));have hmS:=((hmB.kept (aQA.drew [] WB) (by simp)).kept k1 hr).kept kS (hneS _ (Ne.symm hgr));have kw:aQA (gr :: B.own) w (W1.setCell ⟨gr,o+3,none⟩ (.int .i64 r)):=(((kk.trans (aQA.drew [] WB)).mono (by simp)).trans (k1.mono (fun j hj=>List.mem_cons_of_mem _ hj))).trans (kS.mono (by simp));generalize W1.setCell ⟨gr,o+3,none⟩ (.int .i64 r)=WS at *;have p0:WS.cell? ⟨gr,o,none⟩=some (.slice sa n cc):=by rw [hcS.cell,Array.getElem?_setIfInBounds,if_neg (by omega)];exact c0
  have p4:WS.cell? ⟨gr,o+4,none⟩=some (.map (some rm)):=by rw [hcS.cell,Array.getElem?_setIfInBounds,if_neg (by omega)];exact c4
  have gS:=hbS.cell;have aS:=hAS.cell 0;simp at aS;have hv:=hide (lQL WS.drew gr o n sa cc (by omega) p0);have hHk:=hx.hk;have hk9:3 * n≤9:=by omega
  generalize hk3:3 * n=k at hv hHk hk9 ⊢;clear g0 g1 g3 hor h1c;go_wp2_with fail
  refine vQE 7 (by kernel_rfl) (by kernel_rfl) ?_;simp only [List.take_succ_cons,List.take_zero,List.drop_succ_cons,List.drop_zero];repeat (first | go_big_quiet_step (fail) | (go_big_quiet_want;go_big_quiet_op;apply Exists.intro;refine And.intro (hv.out) ?_;go_big_quiet_on))
  refine wpQuiet_nil ?_;go_wp2_with fail
  refine (gQL _ _ _ _).mono ?_;rintro e W2 ⟨rfl,rfl⟩;go_wp2_with fail
  have kp:=aQA.alloc [] WS (.cells #[.pointer (some ⟨B.b,0,none⟩)] 135);have hp:=cQA.new WS #[.pointer (some ⟨B.b,0,none⟩)] 135;have kq:=aQA.alloc [] (WS.alloc (.cells #[.pointer (some ⟨B.b,0,none⟩)] 135)) (.cells #[.int .i64 x] 3);have hq:=cQA.new (WS.alloc (.cells #[.pointer (some ⟨B.b,0,none⟩)] 135)) #[.int .i64 x] 3;have ku:=aQA.alloc [] ((WS.alloc (.cells #[.pointer (some ⟨B.b,0,none⟩)] 135)).alloc (.cells #[.int .i64 x] 3)) (.cells #[.int .i64 (k:Int)] 3);have hu:=cQA.new ((WS.alloc (.cells #[.pointer (some ⟨B.b,0,none⟩)] 135)).alloc (.cells #[.int .i64 x] 3)) #[.int .i64 (k:Int)] 3;simp only [World.size_alloc,zS] at hp hq hu;have kd:=aQA.drew [] (((WS.alloc (.cells #[.pointer (some ⟨B.b,0,none⟩)] 135)).alloc (.cells #[.int .i64 x] 3)).alloc (.cells #[.int .i64 (k:Int)] 3));have k4:=((kp.trans kq).trans ku).trans kd;have hp4:=((hp.keeps kq (by simp)).keeps ku (by simp)).keeps kd (by simp);have hq4:=(hq.keeps ku (by simp)).keeps kd (by simp);have hu4:=hu.keeps kd (by simp);have z4:((((WS.alloc (.cells #[.pointer (some ⟨B.b,0,none⟩)] 135)).alloc (.cells #[.int .i64 x] 3)).alloc (.cells #[.int .i64 (k:Int)] 3)).drew).heap.size=W1.heap.size+1+1+1:=by simp [zS]
  have hz1:w.heap.size+1<W1.heap.size:=by have:=k1.size;have:WB.drew.heap.size=WB.heap.size:=rfl;omega
  have hgl:gr<W1.heap.size:=by omega
  have hrl:rm<W1.heap.size:=by omega
  clear kp kq ku kd hp hq hu;generalize (((WS.alloc (.cells #[.pointer (some ⟨B.b,0,none⟩)] 135)).alloc (.cells #[.int .i64 x] 3)).alloc (.cells #[.int .i64 (k:Int)] 3)).drew=W4 at *;have hE4:=hES.keeps0 k4
  have hit:=trues_iter hE4.sat hE4.wf hE4.idn hE4.ho hE4.n hE4.co (W1.heap.size) (W1.heap.size+1) (W1.heap.size+1+1) x k hp4 hq4 hu4 (x1.ok hx.1) (hHk.ext x1 hE.wf hE1.wf hx.1) hk9 [rm] (by
   intro t ht;simp only [List.mem_singleton] at ht;subst ht
   exact ⟨by omega,hr⟩)
  have hA4:=hAS.keeps k4 (by simp);have hB4:=hBS.keeps k4 (by simp);have hm4:=hmS.kept k4 (by simp);have hc4:=hcS.keeps k4 (by simp);refine (wpIn_wide (n:=0)).1 ?_;refine range_law (gf:=153) (lb:=#[.pointer (some ⟨W1.heap.size,0,none⟩),.pointer (some ⟨W1.heap.size+1,0,none⟩),.pointer (some ⟨W1.heap.size+1+1,0,none⟩)]) rfl (enters_of func153 (by kernel_rfl) rfl) (T:=[rm]) (by simp;omega) hit (fun _=>rfl)
   (fun pre W=>cQA W w.heap.size #[.pointer (some ⟨gr,o,none⟩)]∧cQA W (w.heap.size+1) #[.int .i64 rank]∧cQA W gr (cs.setIfInBounds (o+3) (.int .i64 r))∧∃ L',cQB eI eI W rm L'∧∀ y:Nat,get L' (y:Int)=if y∈pre then some rank else get L (y:Int))
   (fun pre W1 W2 h hb=>⟨h.1.of_heap (hb.block _ (by omega)),h.2.1.of_heap (hb.block _ (by omega)),h.2.2.1.of_heap (hb.block _ (by omega)),let ⟨L',h1,h2⟩:=h.2.2.2;⟨L',h1.of_heap (hb.block _ (by omega)),h2⟩⟩) ⟨hA4,hB4,hc4,L,hm4,fun y=>by simp⟩
   (fun y a' W=>a' = { tmps:=#[.pointer (some ⟨bb,0,none⟩),.pointer (some ⟨gr,o,none⟩),.int .i64 x,.int .i64 rank,undef,.pointer (some ⟨w.heap.size,0,none⟩),undef,.pointer (some ⟨w.heap.size+1,0,none⟩),.int .i64 (y:Nat),u9,u10,u11,u12,u13,u14,u15,u16,u17,u18,u19,u20,u21,.pointer (some ⟨bb,0,none⟩),.pointer (some ⟨bb,0,none⟩),.pointer (some ⟨bb,4,none⟩),.pointer (some ⟨B.b,0,none⟩),.int .i64 x,.pointer (some ⟨gr,o,none⟩),.int .i64 (k:Int),.func (.func 153) #[] #[.pointer (some ⟨W1.heap.size,0,none⟩),.pointer (some ⟨W1.heap.size+1,0,none⟩),.pointer (some ⟨W1.heap.size+1+1,0,none⟩)],.int .i64 (y:Nat),undef,undef,undef,undef,undef,undef],defers:=[] }) (fun x a' W1 W2 h _=>h) ?assign ?body ?done
  case assign=>
   intro l pre y W K hlt hi hc hK;gi_wp2
   exact hK _ _ (by simp [eA]) (aQA.refl _ _)
  case body=>
   rintro l pre y a' W hlt ⟨i1,i2,i3,L',i4,i5⟩ hc rfl;have d0:=i1.cell 0;have d1:=i2.cell 0;have d2:W.cell? ⟨gr,o+4,none⟩=some (.map (some rm)):=by rw [i3.cell,Array.getElem?_setIfInBounds,if_neg (by omega)];exact c4
   simp at d0 d1;have hmd:cQB eI eI W.drew rm L':=i4.of_heap rfl;obtain ⟨ob,hrun,hm5⟩:=wQG (P:=prog) underlying146 key3 hmd (y:Int) rank;simp only [eI] at hrun;have hfol:prog.follows .mixedOrders=true:=(by kernel_rfl);have kb:=(aQA.drew [rm] W).trans (aQA.blk W.drew rm ob);have Hfin:Hid (∀ a',bodyPostJ (fun W=>cQA W w.heap.size #[.pointer (some ⟨gr,o,none⟩)]∧cQA W (w.heap.size+1) #[.int .i64 rank]∧cQA W gr (cs.setIfInBounds (o+3) (.int .i64 r))∧∃ L',cQB eI eI W rm L'∧∀ z:Nat,get L' (z:Int)=if z∈pre++[y] then some rank else get L (z:Int)) [rm] W .normal a' (blk W.drew rm ob)):=by
    intro a';refine ⟨⟨i1.keeps kb (by simp;omega),i2.keeps kb (by simp;omega),i3.keeps kb (by simpa using hgr),_,hm5,fun z=>?_⟩,kb⟩;rw [uQH];by_cases e:z=y
    ·subst e;simp
    ·rw [if_neg (by omega),i5];simp [e]
   clear i5 hm5 i1 i2 i3 i4 kb hmd;dsimp only;gi_wp2
   refine wpIn_mono (Q:=NoP _) ?_ NoP.out;gi_region_with_o (fail)
   all_goals
    refine NoP.normal ?_;exact Hfin.out { tmps:=#[],defers:=[] }
  case done=>
   rintro xs W rfl ⟨i1,i2,i3,L',i4,i5⟩ hk hlt hD;have kP:=aQA.putObj W W4.heap.size (.deferred none);have kWw:aQA (gr :: rm :: B.own) w (W.putObj W4.heap.size (.deferred none)):=by
    refine ((((kw.trans (k4.mono (by simp))).mono (fun j hj=>?_)).trans (hk.mono (fun j hj=>?_))).trans_new kP (fun j hj=>?_))
    ·rcases List.mem_cons.1 hj with rfl | h
     ·simp
     ·simp [h]
    ·simp only [List.mem_singleton] at hj;subst hj;simp
    ·simp only [List.mem_singleton] at hj;exact .inr (by omega)
   have hEW:=(hE4.keeps hk (fun j hj hm=>hr (by simp only [List.mem_singleton] at hm;rw [←hm];exact hj))).keeps kP (fun j hj hm=>by simp only [List.mem_singleton] at hm;have:=hE4.sat.lt j hj;omega);have hcW:=i3.keeps kP (by simp;omega);have hmW:=i4.kept kP (by simp;omega);go_wp2_with fail
   refine ⟨by simp,.inl ⟨_,_,rfl,run_takeDeferred hD,?_⟩⟩;refine ⟨_,results_none rfl _ _ _,rfl,r,S1,L',hEW,hcW,hmW,kWw,x1,n1,hr1,fun y=>?_⟩;rw [i5,hk3]
theorem badd_calls {w:World} {B:SB} {S:ST} (hE:EngS w B S) {bb gr o rm n cc:Nat} {sa:Option Addr} {cs:Array Value} {tu x rank:Int} {L:List (Int×Int)} {T X:List Nat→Prop} (hb:BsAt w bb B) (hc:cQA w gr cs) (c0:cs[o]?=some (.slice sa n cc)) (c3:cs[o+3]?=some (.int .i64 tu)) (c4:cs[o+4]?=some (.map (some rm))) (hm:cQB eI eI w rm L)
  (n3:n≤3) (ht:Rep S tu n T) (hx:Rep S x n X) (hg:gr∉B.own) (hr:rm∉B.own) (hgr:gr≠rm) (hgb:bb≠gr) (hrb:bb≠rm) (hl:S.next+4095<lim) :
  Calls prog 261 #[.pointer (some ⟨bb,0,none⟩),.pointer (some ⟨gr,o,none⟩),.int .i64 x,.int .i64 rank] w fun e w'=>e=.returned (.tuple #[])∧∃ r S' L',EngS w' B S'∧cQA w' gr (cs.setIfInBounds (o+3) (.int .i64 r))∧cQB eI eI w' rm L'∧aQA (gr :: rm :: B.own) w w'∧Ext S S'∧S'.next≤S.next+4095∧Rep S' r n (fun l=>T l∨X l)∧∀ y:Nat,get L' (y:Int)=if y∈S'.trues x (3 * n) then some rank else get L (y:Int):=
 callsIn_wide.1 (add_in hE hb hc c0 c3 c4 hm n3 ht hx hg hr hgr hgb hrb hl)
end
end Go.Proofs.YtgjomknpjigkhaaGreatDoor
