import Derived.Test.YtgjomknpjigkhaaGreatDoorZ06
import Derived.Test.YtgjomknpjigkhaaGreatDoorZ10
namespace Go.Proofs.YtgjomknpjigkhaaGreatDoor
open Go.Proofs.Tryz
set_option maxRecDepth 100000
set_option maxHeartbeats 4000000
section
open Go.RowKit Go.Shelf
attribute [local go_sem] Oper.semAt_some
theorem NJ (w:World) (gr o n:Nat) (sa:Option Addr) (cc:Nat) (hn:n≤100) (h0:w.cell? ⟨gr,o,none⟩=some (.slice sa n cc)):Calls prog 80 #[.pointer (some ⟨gr,o,none⟩)] w fun e w'=>e=.returned (.int .i64 ((3 * n:Nat):Int))∧w' = w:=by
 go_in
 go_wp2
 go_ret
 exact ⟨by simp,rfl⟩
theorem mU {w:World} {B:SB} {S:ST} (hE:DB w B S) {bb gr o rm n cc:Nat} {sa:Option Addr} {cs:Array Value} {tu x rank:Int} {L:List (Int×Int)} {T X:List Nat→Prop} (hb:KY w bb B) (hc:AK w gr cs) (c0:cs[o]?=some (.slice sa n cc)) (c3:cs[o+3]?=some (.int .i64 tu)) (c4:cs[o+4]?=some (.map (some rm))) (hm:Bi eI eI w rm L)
  (n3:n≤3) (ht:GW S tu n T) (hx:GW S x n X) (hg:gr∉B.own) (hr:rm∉B.own) (hgr:gr≠rm) (hgb:bb≠gr) (hrb:bb≠rm) (hl:S.next+4095<GN) :
  CallsIn Fence.wide 0 prog 261 #[.pointer (some ⟨bb,0,none⟩),.pointer (some ⟨gr,o,none⟩),.int .i64 x,.int .i64 rank] w fun e w'=>e=.returned (.tuple #[])∧∃ r S' L',DB w' B S'∧AK w' gr (cs.setIfInBounds (o+3) (.int .i64 r))∧Bi eI eI w' rm L'∧AA (gr :: rm :: B.own) w w'∧EK S S'∧S'.next≤S.next+4095∧GW S' r n (fun l=>T l∨X l)∧∀ y:Nat,DD L' (y:Int)=if y∈S'.trues x (3 * n) then some rank else DD L (y:Int):=by
 have kA:=AA.alloc [] w (.cells #[.pointer (some ⟨gr,o,none⟩)] 155);have hA:=AK.new w #[.pointer (some ⟨gr,o,none⟩)] 155;have zA:=AX w (.cells #[.pointer (some ⟨gr,o,none⟩)] 155);generalize hWA:w.alloc (.cells #[.pointer (some ⟨gr,o,none⟩)] 155)=WA at kA hA zA;have kB:=AA.alloc [] WA (.cells #[.int .i64 rank] 3);have hB:=AK.new WA #[.int .i64 rank] 3;have zB:=AX WA (.cells #[.int .i64 rank] 3);rw [zA] at hB zB;generalize hWB:WA.alloc (.cells #[.int .i64 rank] 3)=WB at kB hB zB;have kk:=kA.trans kB;have hAB:=hA.keeps kB;have hcB:=hc.keeps kk;have hbB:=hb.keeps kk;have hEB:=hE.keeps0 kk;have hmB:=hm.kept kk (by simp);have hlt:=hc.lt;have hrt:=hm.lt;have hor:=AD (fun (W:World) (k:AA [] WB W)=>iD (hEB.keeps0 k) (f:=tu) (g:=x) ⟨ht.1,ht.2⟩ ⟨hx.1,hx.2⟩ hl);refine callsIn_of_wp_marks func261 rfl trivial ?_ rfl;simp only [ntmps261,Bw,AU,Ao,Nat.reduceAdd,Nat.reduceSub,B0,Bz,CW,Bo,BM,A8];have g0:=hbB.cell;have g1:=hAB.cell 0;have g3:WB.cell? ⟨gr,o+3,none⟩=some (.int .i64 tu):=by rw [hcB.cell];exact c3
 simp at g1;refine wpIn_wide.2 ?_;have h1c:=AD (fun (W1:World) (k1:AA B.own WB.drew W1)=>Ak (((hAB.keeps (AA.drew [] WB)).keeps k1 (hE.sat.fresh (AQ _))).cell 0) (Ak (show W1.cell? ⟨gr,o+3,none⟩=some (.int .i64 tu) by rw [((hcB.keeps (AA.drew [] WB)).keeps k1 hg).cell];exact c3) (((hcB.keeps (AA.drew [] WB)).keeps k1 hg).frozen (o+3))));go_upto_region 1 with fail
 go_cut [] from 9 to 22 (fun wc=>∃ (r:Int) (S1:ST) (W1:World),DB W1 B S1∧AA B.own WB.drew W1∧EK S S1∧S1.next≤S.next+4095∧GL S1 r (fun σ=>T (ED σ 0 n)∨X (ED σ 0 n))∧wc=W1.setCell ⟨gr,o+3,none⟩ (.int .i64 r))
 case first=>
  refine wp_region_noPanic ?_
  go_region_law (refine A2 rfl 73 _ _ rfl _ func73 (by kernel_rfl) (by kernel_rfl) [.pointer (some ⟨B.b,0,none⟩),.int .i64 tu,.int .i64 x] rfl ?_
                 refine (hor.out _ (AA.drew [] _)).mono ?_;rintro e W1 ⟨r,S1,rfl,hE1,k1,x1,n1,hr1⟩;obtain ⟨q0,q3,f3⟩:=h1c.out W1 k1
                 simp at q0)
  all_goals
   refine NoPanic.normal ?_;go_wp2_with fail
   go_meet
   exact ⟨r,S1,W1,hE1,k1,x1,n1,hr1,rfl⟩
 case rest=>
  obtain ⟨r,S1,W1,hE1,k1,x1,n1,hr1,rfl⟩:=hcut;have hc1:=(hcB.keeps (AA.drew [] WB)).keeps k1 hg;have hcS:=hc1.setCell (o+3) (.int .i64 r);have kS:=AA.setCell W1 ⟨gr,o+3,none⟩ (.int .i64 r);have zS:(W1.setCell ⟨gr,o+3,none⟩ (.int .i64 r)).heap.size=W1.heap.size:=by simp
  have hneS:∀ j,j≠gr→j∉[gr]:=fun j hj=>by simpa using hj
  have hES:=hE1.keeps kS (fun j hj=>hneS j (fun e=>hg (e ▸ hj)));have hbS:=((hbB.keeps (AA.drew [] WB)).own k1).keeps kS (hneS _ hgb);have hzw:w.heap.size∉B.own:=hE.sat.fresh (AQ _);have hzw1:w.heap.size+1∉B.own:=hE.sat.fresh (by omega);have hAS:=((hAB.keeps (AA.drew [] WB)).keeps k1 hzw).keeps kS (hneS _ (by omega));have hBS:=((hB.keeps (AA.drew [] WB)).keeps k1 hzw1).keeps kS (hneS _ (by omega));have hmS:=((hmB.kept (AA.drew [] WB) (by simp)).kept k1 hr).kept kS (hneS _ (Ne.symm hgr));have kw:AA (gr :: B.own) w (W1.setCell ⟨gr,o+3,none⟩ (.int .i64 r)):=(((kk.trans (AA.drew [] WB)).mono (by simp)).trans (k1.mono (fun j hj=>AP _ hj))).trans (kS.mono (by simp));generalize W1.setCell ⟨gr,o+3,none⟩ (.int .i64 r)=WS at *;have p0:WS.cell? ⟨gr,o,none⟩=some (.slice sa n cc):=by rw [hcS.cell,AZ,if_neg (by omega)];exact c0
  have p4:WS.cell? ⟨gr,o+4,none⟩=some (.map (some rm)):=by rw [hcS.cell,AZ,if_neg (by omega)];exact c4
  have gS:=hbS.cell;have aS:=hAS.cell 0;simp at aS;have hv:=AD (NJ WS.drew gr o n sa cc (by omega) p0);have hHk:=hx.hk;have hk9:3 * n≤9:=by omega
  generalize hk3:3 * n=k at hv hHk hk9 ⊢;clear g0 g1 g3 hor h1c;go_wp2_with fail
  refine Fc 7 (by kernel_rfl) (by kernel_rfl) ?_;simp only [CR,DW,CT,BV];repeat (first | go_big_quiet_step (fail) | (go_big_quiet_want;go_big_quiet_op;apply Exists.intro;refine Ak (hv.out) ?_;go_big_quiet_on))
  refine wpQuiet_nil ?_;go_wp2_with fail
  refine (M9 _ _ _ _).mono ?_;rintro e W2 ⟨rfl,rfl⟩;go_wp2_with fail
  have kp:=AA.alloc [] WS (.cells #[.pointer (some ⟨B.b,0,none⟩)] 135);have hp:=AK.new WS #[.pointer (some ⟨B.b,0,none⟩)] 135;have kq:=AA.alloc [] (WS.alloc (.cells #[.pointer (some ⟨B.b,0,none⟩)] 135)) (.cells #[.int .i64 x] 3);have hq:=AK.new (WS.alloc (.cells #[.pointer (some ⟨B.b,0,none⟩)] 135)) #[.int .i64 x] 3;have ku:=AA.alloc [] ((WS.alloc (.cells #[.pointer (some ⟨B.b,0,none⟩)] 135)).alloc (.cells #[.int .i64 x] 3)) (.cells #[.int .i64 (k:Int)] 3);have hu:=AK.new ((WS.alloc (.cells #[.pointer (some ⟨B.b,0,none⟩)] 135)).alloc (.cells #[.int .i64 x] 3)) #[.int .i64 (k:Int)] 3;simp only [World.size_alloc,zS] at hp hq hu;have kd:=AA.drew [] (((WS.alloc (.cells #[.pointer (some ⟨B.b,0,none⟩)] 135)).alloc (.cells #[.int .i64 x] 3)).alloc (.cells #[.int .i64 (k:Int)] 3));have k4:=((kp.trans kq).trans ku).trans kd;have hp4:=((hp.keeps kq).keeps ku).keeps kd;have hq4:=(hq.keeps ku).keeps kd;have hu4:=hu.keeps kd;have z4:((((WS.alloc (.cells #[.pointer (some ⟨B.b,0,none⟩)] 135)).alloc (.cells #[.int .i64 x] 3)).alloc (.cells #[.int .i64 (k:Int)] 3)).drew).heap.size=W1.heap.size+1+1+1:=by simp [zS]
  have hz1:w.heap.size+1<W1.heap.size:=by have:=k1.size;have:WB.drew.heap.size=WB.heap.size:=rfl;omega
  have hgl:gr<W1.heap.size:=by omega
  have hrl:rm<W1.heap.size:=by omega
  clear kp kq ku kd hp hq hu;generalize (((WS.alloc (.cells #[.pointer (some ⟨B.b,0,none⟩)] 135)).alloc (.cells #[.int .i64 x] 3)).alloc (.cells #[.int .i64 (k:Int)] 3)).drew=W4 at *;have hE4:=hES.keeps0 k4
  have hit:=VY hE4.sat hE4.wf hE4.idn hE4.ho hE4.n hE4.co (W1.heap.size) (W1.heap.size+1) (W1.heap.size+1+1) x k hp4 hq4 hu4 (x1.ok hx.1) (hHk.ext x1 hE.wf hE1.wf hx.1) hk9 [rm] (by
   intro t ht;simp only [AF] at ht;subst ht
   exact ⟨by omega,hr⟩)
  have hA4:=hAS.keeps k4;have hB4:=hBS.keeps k4;have hm4:=hmS.kept k4 (by simp);have hc4:=hcS.keeps k4;refine (wpIn_wide (n:=0)).1 ?_
  refine Qa (gf:=153) (lb:=#[.pointer (some ⟨W1.heap.size,0,none⟩),.pointer (some ⟨W1.heap.size+1,0,none⟩),.pointer (some ⟨W1.heap.size+1+1,0,none⟩)]) rfl (enters_of func153 (by kernel_rfl) rfl) (T:=[rm]) (by simp;omega) hit (fun _=>rfl)
   (fun pre W=>AK W w.heap.size #[.pointer (some ⟨gr,o,none⟩)]∧AK W (w.heap.size+1) #[.int .i64 rank]∧AK W gr (cs.setIfInBounds (o+3) (.int .i64 r))∧∃ L',Bi eI eI W rm L'∧∀ y:Nat,DD L' (y:Int)=if y∈pre then some rank else DD L (y:Int))
   (fun pre W1 W2 h hb=>⟨h.1.of_heap (hb.block _ (by omega)),h.2.1.of_heap (hb.block _ (by omega)),h.2.2.1.of_heap (hb.block _ (by omega)),let ⟨L',h1,h2⟩:=h.2.2.2;⟨L',h1.of_heap (hb.block _ (by omega)),h2⟩⟩) ⟨hA4,hB4,hc4,L,hm4,fun y=>by simp⟩
   (fun y a' W=>a' = { tmps:=#[.pointer (some ⟨bb,0,none⟩),.pointer (some ⟨gr,o,none⟩),.int .i64 x,.int .i64 rank,undef,.pointer (some ⟨w.heap.size,0,none⟩),undef,.pointer (some ⟨w.heap.size+1,0,none⟩),.int .i64 (y:Nat),u9,u10,u11,u12,u13,u14,u15,u16,u17,u18,u19,u20,u21,.pointer (some ⟨bb,0,none⟩),.pointer (some ⟨bb,0,none⟩),.pointer (some ⟨bb,4,none⟩),.pointer (some ⟨B.b,0,none⟩),.int .i64 x,.pointer (some ⟨gr,o,none⟩),.int .i64 (k:Int),.func (.func 153) #[] #[.pointer (some ⟨W1.heap.size,0,none⟩),.pointer (some ⟨W1.heap.size+1,0,none⟩),.pointer (some ⟨W1.heap.size+1+1,0,none⟩)],.int .i64 (y:Nat),undef,undef,undef,undef,undef,undef],defers:=[] }) (fun x a' W1 W2 h _=>h) ?assign ?body ?done
  case assign=>
   intro l pre y W K hlt hi hc hK;gi_wp2
   exact hK _ _ (by simp [eA]) (AA.refl _ _)
  case body=>
   rintro l pre y a' W hlt ⟨i1,i2,i3,L',i4,i5⟩ hc rfl;have d0:=i1.cell 0;have d1:=i2.cell 0;have d2:W.cell? ⟨gr,o+4,none⟩=some (.map (some rm)):=by rw [i3.cell,AZ,if_neg (by omega)];exact c4
   simp at d0 d1;have hmd:Bi eI eI W.drew rm L':=i4.of_heap rfl;obtain ⟨ob,hrun,hm5⟩:=Fm (P:=prog) underlying146 In hmd (y:Int) rank;simp only [eI] at hrun;have hfol:prog.follows .mixedOrders=true:=(by kernel_rfl);have kb:=(AA.drew [rm] W).trans (AA.blk W.drew rm ob);have Hfin:Hid (∀ a',Qt (fun W=>AK W w.heap.size #[.pointer (some ⟨gr,o,none⟩)]∧AK W (w.heap.size+1) #[.int .i64 rank]∧AK W gr (cs.setIfInBounds (o+3) (.int .i64 r))∧∃ L',Bi eI eI W rm L'∧∀ z:Nat,DD L' (z:Int)=if z∈pre++[y] then some rank else DD L (z:Int)) [rm] W .normal a' (blk W.drew rm ob)):=by
    intro a';refine ⟨⟨i1.keeps kb (by simp;omega),i2.keeps kb (by simp;omega),i3.keeps kb (by simpa using hgr),_,hm5,fun z=>?_⟩,kb⟩;rw [GP];by_cases e:z=y
    ·subst e;simp
    ·rw [if_neg (by omega),i5];simp [e]
   clear i5 hm5 i1 i2 i3 i4 kb hmd;dsimp only;gi_wp2
   refine wpIn_mono (Q:=fS _) ?_ fS.out;gi_region_with_o (fail)
   all_goals
    refine fS.normal ?_;exact Hfin.out { tmps:=#[],defers:=[] }
  case done=>
   rintro xs W rfl ⟨i1,i2,i3,L',i4,i5⟩ hk hlt hD;have kP:=AA.putObj W W4.heap.size (.deferred none);have kWw:AA (gr :: rm :: B.own) w (W.putObj W4.heap.size (.deferred none)):=by
    refine ((((kw.trans (k4.mono (by simp))).mono (fun j hj=>?_)).trans (hk.mono (fun j hj=>?_))).trans_new kP (fun j hj=>?_))
    ·rcases AG.1 hj with rfl | h
     ·simp
     ·simp [h]
    ·simp only [AF] at hj;subst hj;simp
    ·simp only [AF] at hj;exact .inr (by omega)
   have hEW:=(hE4.keeps hk (fun j hj hm=>hr (by simp only [AF] at hm;rw [←hm];exact hj))).keeps kP (fun j hj hm=>by simp only [AF] at hm;have:=hE4.sat.lt j hj;omega);have hcW:=i3.keeps kP (by simp;omega);have hmW:=i4.kept kP (by simp;omega);go_wp2_with fail
   refine ⟨by simp,.inl ⟨_,_,rfl,run_takeDeferred hD,?_⟩⟩;refine ⟨_,results_none rfl _ _ _,rfl,r,S1,L',hEW,hcW,hmW,kWw,x1,n1,hr1,fun y=>?_⟩;rw [i5,hk3]
theorem Wx {w:World} {B:SB} {S:ST} (hE:DB w B S) {bb gr o rm n cc:Nat} {sa:Option Addr} {cs:Array Value} {tu x rank:Int} {L:List (Int×Int)} {T X:List Nat→Prop} (hb:KY w bb B) (hc:AK w gr cs) (c0:cs[o]?=some (.slice sa n cc)) (c3:cs[o+3]?=some (.int .i64 tu)) (c4:cs[o+4]?=some (.map (some rm))) (hm:Bi eI eI w rm L)
  (n3:n≤3) (ht:GW S tu n T) (hx:GW S x n X) (hg:gr∉B.own) (hr:rm∉B.own) (hgr:gr≠rm) (hgb:bb≠gr) (hrb:bb≠rm) (hl:S.next+4095<GN) :
  Calls prog 261 #[.pointer (some ⟨bb,0,none⟩),.pointer (some ⟨gr,o,none⟩),.int .i64 x,.int .i64 rank] w fun e w'=>e=.returned (.tuple #[])∧∃ r S' L',DB w' B S'∧AK w' gr (cs.setIfInBounds (o+3) (.int .i64 r))∧Bi eI eI w' rm L'∧AA (gr :: rm :: B.own) w w'∧EK S S'∧S'.next≤S.next+4095∧GW S' r n (fun l=>T l∨X l)∧∀ y:Nat,DD L' (y:Int)=if y∈S'.trues x (3 * n) then some rank else DD L (y:Int):=
 callsIn_wide.1 (mU hE hb hc c0 c3 c4 hm n3 ht hx hg hr hgr hgb hrb hl)
end
section
open Go.RowKit
structure BF where
 sa:Option Addr
 n:Nat
 cc:Nat
 layer:Nat
 fa:Int
 tu:Int
 rm:Nat
 L:List (Int×Int)
structure Ko (cs:Array Value) (o:Nat) (r:BF):Prop where
 c0:cs[o]?=some (.slice r.sa r.n r.cc)
 c1:cs[o+1]?=some (.int .i64 (r.layer:Int))
 c2:cs[o+2]?=some (.int .i64 r.fa)
 c3:cs[o+3]?=some (.int .i64 r.tu)
 c4:cs[o+4]?=some (.map (some r.rm))
def Pf (cs:Array Value) (rs:List BF):Prop:=∀ (i:Nat) (r:BF),rs[i]?=some r→Ko cs (i * 5) r
theorem Ko.other {cs:Array Value} {o:Nat} {r:BF} (h:Ko cs o r) {j:Nat} {v:Value} (hj:j<o∨o+5≤j):Ko (cs.setIfInBounds j v) o r:=by
 constructor <;> rw [AZ,if_neg (by omega)]
 ·exact h.c0
 ·exact h.c1
 ·exact h.c2
 ·exact h.c3
 ·exact h.c4
theorem Ko.setTu {cs:Array Value} {o:Nat} {r:BF} (h:Ko cs o r) (t:Int):Ko (cs.setIfInBounds (o+3) (.int .i64 t)) o { r with tu:=t }:=by
 have hs:o+3<cs.size:=(AO.1 h.c3).1;constructor
 ·rw [AZ,if_neg (by omega)];exact h.c0
 ·rw [AZ,if_neg (by omega)];exact h.c1
 ·rw [AZ,if_neg (by omega)];exact h.c2
 ·rw [AZ,if_pos rfl,if_pos hs]
 ·rw [AZ,if_neg (by omega)];exact h.c4
theorem Ko.setFa {cs:Array Value} {o:Nat} {r:BF} (h:Ko cs o r) (t:Int):Ko (cs.setIfInBounds (o+2) (.int .i64 t)) o { r with fa:=t }:=by
 have hs:o+2<cs.size:=(AO.1 h.c2).1;constructor
 ·rw [AZ,if_neg (by omega)];exact h.c0
 ·rw [AZ,if_neg (by omega)];exact h.c1
 ·rw [AZ,if_pos rfl,if_pos hs]
 ·rw [AZ,if_neg (by omega)];exact h.c3
 ·rw [AZ,if_neg (by omega)];exact h.c4
theorem Ko.mapL {cs:Array Value} {o:Nat} {r:BF} (h:Ko cs o r) (L:List (Int×Int)):Ko cs o { r with L:=L }:=⟨h.c0,h.c1,h.c2,h.c3,h.c4⟩
theorem Pf.set {cs cs':Array Value} {rs:List BF} {i:Nat} {r:BF} (h:Pf cs rs) (hr:Ko cs' (i * 5) r) (ho:∀ (j:Nat) (q:BF),j≠i→Ko cs (j * 5) q→Ko cs' (j * 5) q):Pf cs' (rs.set i r):=fun j q hj=>by
 rw [Aw] at hj;by_cases e:i=j
 ·subst e;split at hj
  ·split at hj
   ·cases hj;exact hr
   ·cases hj
  ·omega
 ·rw [if_neg e] at hj;exact ho j q (Ne.symm e) (h j q hj)
structure F9 (w:World) (bb:Nat) (B:SB) (S:ST) (gr cr:Nat) (rs:List BF) (x0 x1 x3:Value):Prop where
 cells:AK w bb #[x0,x1,.slice (some ⟨gr,0,none⟩) rs.length cr,x3,.pointer (some ⟨B.b,0,none⟩)]
 eng:DB w B S
 rel:∃ cs,AK w gr cs∧Pf cs rs
 maps:∀ r∈rs,Bi eI eI w r.rm r.L
 bbB:bb∉B.own
 grB:gr∉B.own
 rmB:∀ r∈rs,r.rm∉B.own
 bbgr:bb≠gr
 bbrm:∀ r∈rs,bb≠r.rm
 grrm:∀ r∈rs,gr≠r.rm
 nodup:(rs.map (·.rm)).Nodup
 few:rs.length≤6
 cols:∀ r∈rs,r.n≤3
def ftp (B:SB) (gr:Nat) (rs:List BF):List Nat:=gr :: (rs.map (·.rm)++B.own)
section
variable {w w':World} {bb gr cr:Nat} {B:SB} {S S':ST} {rs:List BF} {x0 x1 x3:Value}
theorem F9.bs (h:F9 w bb B S gr cr rs x0 x1 x3):KY w bb B:=⟨by have:=h.cells.cell 4;simpa using this,h.cells.lt,h.bbB⟩
theorem F9.keeps0 (h:F9 w bb B S gr cr rs x0 x1 x3) (k:AA [] w w'):F9 w' bb B S gr cr rs x0 x1 x3:=
 ⟨h.cells.keeps k,h.eng.keeps0 k,let ⟨cs,h1,h2⟩:=h.rel;⟨cs,h1.keeps k,h2⟩,fun r hr=>(h.maps r hr).kept k (by simp),h.bbB,h.grB,h.rmB,h.bbgr,h.bbrm,h.grrm,h.nodup,h.few,h.cols⟩
theorem F9.store (h:F9 w bb B S gr cr rs x0 x1 x3) (k:AA B.own w w') (hE:DB w' B S'):F9 w' bb B S' gr cr rs x0 x1 x3:=
 ⟨h.cells.keeps k h.bbB,hE,let ⟨cs,h1,h2⟩:=h.rel;⟨cs,h1.keeps k h.grB,h2⟩,fun r hr=>(h.maps r hr).kept k (h.rmB r hr),h.bbB,h.grB,h.rmB,h.bbgr,h.bbrm,h.grrm,h.nodup,h.few,h.cols⟩
theorem aH {rs:List BF} {i:Nat} {r r':BF} (hi:rs[i]?=some r) (he:r'.rm=r.rm):(rs.set i r').map (·.rm)=rs.map (·.rm):=by
 apply Bj;intro j;rw [AW,AW,Aw];by_cases e:i=j
 ·subst e;have hl:=(AL.1 hi).1;rw [if_pos rfl,if_pos hl,hi];simp [he]
 ·rw [if_neg e]
theorem jE {i:Nat} {r r':BF} (hi:rs[i]?=some r) (he:r'.rm=r.rm):ftp B gr (rs.set i r')=ftp B gr rs:=by unfold ftp;rw [aH hi he]
theorem N7 {rs:List BF} {i:Nat} {r' x:BF} (h:x∈rs.set i r'):x=r'∨x∈rs:=by
 obtain ⟨j,hj,rfl⟩:=A0 h;rw [List.getElem_set];split
 ·exact .inl rfl
 ·exact .inr (CC _)
theorem F9.turn (h:F9 w bb B S gr cr rs x0 x1 x3) {i:Nat} {r:BF} (hi:rs[i]?=some r) {r':BF} (hn:r'.n=r.n) (hm:r'.rm=r.rm) (k:AA (gr :: r.rm :: B.own) w w') (hE:DB w' B S') {cs':Array Value} (hc:AK w' gr cs') (hcs:Pf cs' (rs.set i r')) (hmap:Bi eI eI w' r.rm r'.L):F9 w' bb B S' gr cr (rs.set i r') x0 x1 x3:=by
 have hr:=AE hi;have hfar:∀ x∈rs,x.rm≠r.rm→x.rm∉gr :: r.rm :: B.own:=fun x hx hne hm=>by
  rcases AG.1 hm with e | hm
  ·exact h.grrm x hx e.symm
  ·rcases AG.1 hm with e | hm
   ·exact hne e
   ·exact h.rmB x hx hm
 have hbb:bb∉gr :: r.rm :: B.own:=By h.bbgr (By (h.bbrm r hr) h.bbB);refine ⟨by rw [BI];exact h.cells.keeps k hbb,hE,⟨cs',hc,hcs⟩,fun x hx=>?_,h.bbB,h.grB,fun x hx=>?_,h.bbgr,fun x hx=>?_,fun x hx=>?_,by rw [aH hi hm];exact h.nodup,by rw [BI];exact h.few,fun x hx=>?_⟩
 ·obtain ⟨j,hj,rfl⟩:=A0 hx;rw [List.getElem_set];split
  ·rw [hm];exact hmap
  ·rename_i hne;rw [BI] at hj;refine (h.maps _ (CC hj)).kept k (hfar _ (CC hj) fun e=>hne ?_);have hl:=(AL.1 hi);have h1:(rs.map (·.rm))[i]?=some r.rm:=by rw [AW,hi];rfl
   have h2:(rs.map (·.rm))[j]?=some r.rm:=by rw [AW,AB hj,←e];rfl
   exact (List.getElem?_inj (by simpa using hl.1) h.nodup).1 (h1.trans h2.symm)
 ·rcases N7 hx with rfl | hx
  ·rw [hm];exact h.rmB r hr
  ·exact h.rmB x hx
 ·rcases N7 hx with rfl | hx
  ·rw [hm];exact h.bbrm r hr
  ·exact h.bbrm x hx
 ·rcases N7 hx with rfl | hx
  ·rw [hm];exact h.grrm r hr
  ·exact h.grrm x hx
 ·rcases N7 hx with rfl | hx
  ·rw [hn];exact h.cols r hr
  ·exact h.cols x hx
theorem Ui {i:Nat} {r:BF} (hi:rs[i]?=some r) (k:AA (gr :: r.rm :: B.own) w w'):AA (ftp B gr rs) w w':=k.mono (fun j hj=>by
 have hr:=AE hi;rcases AG.1 hj with rfl | hj
 ·simp [ftp]
 ·rcases AG.1 hj with rfl | hj
  ·simp only [ftp,AG,AC,AM];exact .inr (.inl ⟨r,hr,rfl⟩)
  ·simp [ftp,hj])
end
structure QH (S:ST) (r:BF) (Fa:List Nat→Prop) (rk:List Nat→Option Nat):Prop where
 fa:GW S r.fa r.n Fa
 tu:GW S r.tu r.n (fun l=>(rk l).isSome=true)
 ranks:∀ l∈DP r.n,DD r.L (asn l:Int)=(rk l).map (fun m:Nat=>(m:Int))
def En (S:ST) (rs:List BF) (Fs:Nat→List Nat→Prop) (rks:Nat→List Nat→Option Nat):Prop:=∀ (i:Nat) (r:BF),rs[i]?=some r→QH S r (Fs i) (rks i)
open Classical in
noncomputable def Fk (rk:List Nat→Option Nat) (X:List Nat→Prop) (n:Nat):List Nat→Option Nat:=fun l=>if X l then some n else rk l
theorem GW.ext {S S':ST} {f:Int} {c:Nat} {R:List Nat→Prop} (h:GW S f c R) (x:EK S S') (hw:WF S) (hw':WF S'):GW S' f c R:=⟨x.ok h.1,fun σ=>by rw [x.den hw hw' h.1];exact h.2 σ⟩
theorem GW.iff {S:ST} {f:Int} {c:Nat} {R R':List Nat→Prop} (h:GW S f c R) (hi:∀ l∈DP c,(R l↔R' l)):GW S f c R':=⟨h.1,fun σ=>by rw [h.2,hi _ (Lr σ c 0)]⟩
theorem QH.ext {S S':ST} {r:BF} {Fa:List Nat→Prop} {rk:List Nat→Option Nat} (h:QH S r Fa rk) (x:EK S S') (hw:WF S) (hw':WF S'):QH S' r Fa rk:=⟨h.fa.ext x hw hw',h.tu.ext x hw hw',h.ranks⟩
theorem En.ext {S S':ST} {rs:List BF} {Fs:Nat→List Nat→Prop} {rks:Nat→List Nat→Option Nat} (h:En S rs Fs rks) (x:EK S S') (hw:WF S) (hw':WF S'):En S' rs Fs rks:=fun i r hi=>(h i r hi).ext x hw hw'
def nH (rks:Nat→List Nat→Option Nat) (i:Nat) (rk:List Nat→Option Nat):Nat→List Nat→Option Nat:=fun j=>if j=i then rk else rks j
theorem En.set {S:ST} {rs:List BF} {Fs:Nat→List Nat→Prop} {rks:Nat→List Nat→Option Nat} (h:En S rs Fs rks) {i:Nat} {r':BF} {rk:List Nat→Option Nat} (hr:QH S r' (Fs i) rk):En S (rs.set i r') Fs (nH rks i rk):=fun j q hj=>by
 rw [Aw] at hj;unfold nH;by_cases e:i=j
 ·subst e;rw [if_pos rfl] at hj ⊢;split at hj
  ·cases hj;exact hr
  ·cases hj
 ·rw [if_neg e] at hj;rw [if_neg (fun q=>e q.symm)];exact h j q hj
structure Jg (r r':BF):Prop where
 sa:r'.sa=r.sa
 n:r'.n=r.n
 cc:r'.cc=r.cc
 layer:r'.layer=r.layer
 fa:r'.fa=r.fa
 rm:r'.rm=r.rm
theorem Jg.refl (r:BF):Jg r r:=⟨rfl,rfl,rfl,rfl,rfl,rfl⟩
theorem Jg.trans {a b c:BF} (h:Jg a b) (k:Jg b c):Jg a c:=⟨k.sa.trans h.sa,k.n.trans h.n,k.cc.trans h.cc,k.layer.trans h.layer,k.fa.trans h.fa,k.rm.trans h.rm⟩
def DV (rs rs':List BF):Prop:=rs'.length=rs.length∧∀ (i:Nat) (r:BF),rs[i]?=some r→∃ r',rs'[i]?=some r'∧Jg r r'
theorem DV.refl (rs:List BF):DV rs rs:=⟨rfl,fun _ r h=>⟨r,h,Jg.refl r⟩⟩
theorem DV.trans {a b c:List BF} (h:DV a b) (k:DV b c):DV a c:=⟨k.1.trans h.1,fun i r hi=>by
 obtain ⟨r1,h1,l1⟩:=h.2 i r hi;obtain ⟨r2,h2,l2⟩:=k.2 i r1 h1
 exact ⟨r2,h2,l1.trans l2⟩⟩
theorem DV.set {rs:List BF} {i:Nat} {r r':BF} (hi:rs[i]?=some r) (h:Jg r r'):DV rs (rs.set i r'):=⟨by simp,fun j q hj=>by
 rw [Aw];by_cases e:i=j
 ·subst e;rw [hi] at hj;cases hj;have hl:=(AL.1 hi).1;exact ⟨r',by rw [if_pos rfl,if_pos hl],h⟩
 ·exact ⟨q,by rw [if_neg e];exact hj,Jg.refl q⟩⟩
theorem DV.ftp {B:SB} {gr:Nat} {rs rs':List BF} (h:DV rs rs'):ftp B gr rs' = ftp B gr rs:=by
 have e:rs'.map (·.rm)=rs.map (·.rm):=by
  apply Bj;intro j;rw [AW,AW];by_cases hj:j<rs.length
  ·obtain ⟨r',h1,h2⟩:=h.2 j _ (AB hj);rw [h1,AB hj];simp [h2.rm]
  ·rw [Af (by rw [h.1];omega),Af (by omega)]
 unfold YtgjomknpjigkhaaGreatDoor.ftp;rw [e]
theorem Xy {w:World} {bb gr cr:Nat} {B:SB} {S:ST} {rs:List BF} {x0 x1 x3:Value} (h:F9 w bb B S gr cr rs x0 x1 x3) {i:Nat} {r:BF} (hi:rs[i]?=some r) {Fa:List Nat→Prop} {rk:List Nat→Option Nat} (hs:QH S r Fa rk) {x:Int} {X:List Nat→Prop} (hx:GW S x r.n X) (rank:Nat) (hl:S.next+4095<GN) :
  Calls prog 261 #[.pointer (some ⟨bb,0,none⟩),.pointer (some ⟨gr,i * 5,none⟩),.int .i64 x,.int .i64 (rank:Int)] w fun e w'=>e=.returned (.tuple #[])∧∃ r' S',F9 w' bb B S' gr cr (rs.set i r') x0 x1 x3∧AA (ftp B gr rs) w w'∧EK S S'∧S'.next≤S.next+4095∧Jg r r'∧QH S' r' Fa (Fk rk X rank):=by
 obtain ⟨cs,hc,hcs⟩:=h.rel;have hr:=AE hi;have c:=hcs i r hi;refine (Wx h.eng h.bs hc c.c0 c.c3 c.c4 (h.maps r hr) (h.cols r hr) hs.tu hx h.grB (h.rmB r hr) (h.grrm r hr) h.bbgr (h.bbrm r hr) hl).mono ?_;rintro e w' ⟨rfl,t,S',L',hE',hc',hm',k',x',n',ht',hL'⟩;refine ⟨rfl,{ r with tu:=t,L:=L' },S',h.turn hi rfl rfl k' hE' hc' (hcs.set ((c.setTu t).mapL L') (fun j q hj hq=>hq.other (by omega))) hm',Ui hi k',x',n',⟨rfl,rfl,rfl,rfl,rfl,rfl⟩,hs.fa.ext x' h.eng.wf hE'.wf,ht'.iff fun l _=>?_,fun l hl=>?_⟩
 ·unfold Fk;by_cases hX:X l
  ·simp [hX]
  ·simp [hX]
 ·show DD L' _=_;rw [hL' (asn l)];have hiff:asn l∈S'.trues x (3 * r.n)↔X l:=by
   rw [YM (hx.ext x' h.eng.wf hE'.wf)];exact ⟨fun ⟨m,hm,hX,e⟩=>by rw [jV hl hm e];exact hX,fun hX=>⟨l,hl,hX,rfl⟩⟩
  unfold Fk;by_cases hX:X l
  ·rw [if_pos (hiff.2 hX),if_pos hX];rfl
  ·rw [if_neg (fun q=>hX (hiff.1 q)),if_neg hX];exact hs.ranks l hl
def Fw (rs:List BF) (i:Nat):Nat:=(rs[i]?.map (·.layer)).getD 0
noncomputable def Dz (rs:List BF) (Fs:Nat→List Nat→Prop) (rks:Nat→List Nat→Option Nat) (lay j:Nat):Nat→List Nat→Option Nat:=fun i=>if i<j∧Fw rs i=lay then Fk (fun _=>none) (Fs i) 0 else rks i
theorem R8 {rs:List BF} {Fs:Nat→List Nat→Prop} {rks:Nat→List Nat→Option Nat} {lay j:Nat} (h:Fw rs j≠lay):Dz rs Fs rks lay (j+1)=Dz rs Fs rks lay j:=by
 funext i
 unfold Dz;by_cases e:i=j
 ·subst e;rw [if_neg (by omega),if_neg (by omega)]
 ·have:(i<j+1∧Fw rs i=lay)↔(i<j∧Fw rs i=lay):=by omega
  simp only [this]
theorem R7 {rs:List BF} {Fs:Nat→List Nat→Prop} {rks:Nat→List Nat→Option Nat} {lay j:Nat} (h:Fw rs j=lay):Dz rs Fs rks lay (j+1)=nH (Dz rs Fs rks lay j) j (Fk (fun _=>none) (Fs j) 0):=by
 funext i
 unfold Dz nH;by_cases e:i=j
 ·subst e;rw [if_pos ⟨by omega,h⟩,if_pos rfl]
 ·have:(i<j+1∧Fw rs i=lay)↔(i<j∧Fw rs i=lay):=by omega
  simp only [this,e,if_false]
theorem QH.none {S:ST} {r:BF} {Fa:List Nat→Prop} {rk:List Nat→Option Nat} (h:QH S r Fa rk):QH S { r with tu:=0,L:=[] } Fa (fun _=>none):=⟨h.fa,⟨Es S,fun σ=>by simp [CI]⟩,fun l _=>rfl⟩
theorem US {w:World} {bb gr cr:Nat} {B:SB} {S:ST} {rs:List BF} {x0 x1 x3:Value} (h:F9 w bb B S gr cr rs x0 x1 x3) {Fs:Nat→List Nat→Prop} {rks:Nat→List Nat→Option Nat} (ha:En S rs Fs rks) (lay:Nat) (hl:S.next+24570<GN) :
  Calls prog 215 #[.pointer (some ⟨bb,0,none⟩),.int .i64 (lay:Int)] w fun e w'=>e=.returned (.tuple #[])∧∃ rs' S',F9 w' bb B S' gr cr rs' x0 x1 x3∧DV rs rs'∧AA (ftp B gr rs) w w'∧EK S S'∧S'.next≤S.next+24570∧En S' rs' Fs (Dz rs Fs rks lay rs.length):=by
 have c2:=h.cells.cell 2;simp at c2;have h6:=h.few;have Hl:=AD hl;clear hl;go_in
 go_wp2_with fail
 clear c2;go_loopw [11] (fun y wr=>∃ (j:Nat) (rs':List BF) (S':ST),y=.int .i64 j∧j≤rs.length∧F9 wr bb B S' gr cr rs' x0 x1 x3∧DV rs rs'∧AA (ftp B gr rs) w wr∧EK S S'∧S'.next≤S.next+4095 * j∧En S' rs' Fs (Dz rs Fs rks lay j)) (fun y _=>((rs.length:Int) - intOf y).toNat)
 case atStart=>exact ⟨0,rs,S,rfl,by omega,h,DV.refl rs,AA.refl _ _,EK.refl S,by omega,fun i r hi=>by
  have e:Dz rs Fs rks lay 0=rks:=by funext i;unfold Dz;rw [if_neg (by omega)]
  rw [e];exact ha i r hi⟩
 case round=>
  obtain ⟨j,rs',S',rfl,hj,hb,hlk,hk,hx,hn,hs⟩:=hrel;have Hn:=AD hn;clear hn;by_cases hjl:j<rs.length
  ·have hjI:(j:Int)<rs.length:=(by omega);obtain ⟨r0,hr0⟩:∃ r,rs[j]?=some r:=⟨_,AB hjl⟩;obtain ⟨r,hr,hrl⟩:=hlk.2 j r0 hr0;obtain ⟨cs,hc,hcs⟩:=hb.rel;have c:=hcs j r hr;have hmem:=AE hr;have g2:=hb.cells.cell 2;simp at g2;rw [hlk.1] at g2;have q1:wr.cell? ⟨gr,j * 5+1,none⟩=some (.int .i64 (r.layer:Int)):=by rw [hc.cell];exact c.c1
   have q3:wr.cell? ⟨gr,j * 5+3,none⟩=some (.int .i64 r.tu):=by rw [hc.cell];exact c.c3
   have f3:=hc.frozen (j * 5+3);have hlo:Fw rs j=r.layer:=(by simp [Fw,hr0,hrl.layer]);by_cases hly:r.layer=lay
   ·have hlI:(r.layer:Int)=lay:=(by omega);have kS:=AA.setCell wr ⟨gr,j * 5+3,none⟩ (.int .i64 0);have hcS:=hc.setCell (j * 5+3) (.int .i64 0);have hmS:=(hb.maps r hmem).kept kS (by simpa using Ne.symm (hb.grrm r hmem));obtain ⟨o,hrun,hm⟩:=QV (P:=prog) underlying146 hmS 0;have hrun':=fun (ty:TypeId)=>(show (Builtin.clear_ #[146] ty #[.map (some r.rm)]).run prog _=_ from hrun);have kC:=AA.blk (wr.setCell ⟨gr,j * 5+3,none⟩ (.int .i64 0)) r.rm o;have hcC:=hcS.keeps kC (by simpa using hb.grrm r hmem);have kk:AA (gr :: r.rm :: B.own) wr (blk (wr.setCell ⟨gr,j * 5+3,none⟩ (.int .i64 0)) r.rm o):=(kS.mono (by simp)).trans (kC.mono (by simp));have hEC:=(hb.eng.keeps kS (fun q hq hm=>hb.grB (by simp only [AF] at hm;rw [←hm];exact hq))).keeps kC (fun q hq hm=>hb.rmB r hmem (by simp only [AF] at hm;rw [←hm];exact hq));have hbC:=hb.turn hr (r':={ r with tu:=0,L:=[] }) rfl rfl kk hEC hcC (hcs.set ((c.setTu 0).mapL []) (fun j' q hj' hq=>hq.other (by omega))) hm;have hl2:j<rs'.length:=(AL.1 hr).1;have hiC:(rs'.set j { r with tu:=0,L:=[] })[j]?=some { r with tu:=0,L:=[] }:=(by rw [Aw,if_pos rfl,if_pos hl2]);have hadd:=AD (Xy hbC hiC (hs j r hr).none (x:=r.fa) (X:=Fs j) (hs j r hr).fa 0 (by have:=Hl.out;have:=Hn.out;omega));have q4:(wr.setCell ⟨gr,j * 5+3,none⟩ (.int .i64 0)).cell? ⟨gr,j * 5+4,none⟩=some (.map (some r.rm)):=by rw [hcS.cell,AZ,if_neg (by omega)];exact c.c4
    have q2:(blk (wr.setCell ⟨gr,j * 5+3,none⟩ (.int .i64 0)) r.rm o).cell? ⟨gr,j * 5+2,none⟩=some (.int .i64 r.fa):=by rw [hcC.cell,AZ,if_neg (by omega)];exact c.c2
    have Hkk:=AD kk;have Hlo:Hid (Fw rs j=lay):=hlo.trans hly;have Hft:=AD (jE (B:=B) (gr:=gr) hr (r':={ r with tu:=0,L:=[] }) rfl);clear hrun hlo hly kk kS kC hmS hbC hEC hcS hcC hm hiC;go_wp2_with fail
    refine hadd.out.mono ?_;rintro e w5 ⟨rfl,r',S5,hb5,k5,x5,n5,lk5,hs5⟩;rw [Hft.out] at k5;have k6:AA (ftp B gr rs) wr w5:=by have:=(Ui hr Hkk.out).trans k5;rw [hlk.ftp] at this;exact this
    have e5:(rs'.set j { r with tu:=0,L:=[] }).set j r' = rs'.set j r':=(by rw [List.set_set]);rw [e5] at hb5;have lk6:Jg r r':=⟨lk5.sa,lk5.n,lk5.cc,lk5.layer,lk5.fa,lk5.rm⟩;have Hn5:=AD n5;clear n5 e5 hadd;go_wp2_with fail
    go_roundw
    ·exact ⟨j+1,rs'.set j r',S5,by simp,by omega,hb5,hlk.trans (DV.set hr lk6),hk.trans k6,hx.trans x5,by have:=Hn.out;have:=Hn5.out;push_cast;omega,by rw [R7 Hlo.out];exact (hs.ext x5 hb.eng.wf hb5.eng.wf).set hs5⟩
    ·simp only [intOf];omega
   ·have hlI:((r.layer:Int) == (lay:Int))=false:=by simp;omega
    have Hlo:Hid (Fw rs j≠lay):=by rw [hlo];exact hly
    clear hlo hly;go_wp2_with fail
    go_roundw
    ·exact ⟨j+1,rs',S',by simp,by omega,hb,hlk,hk,hx,by have:=Hn.out;push_cast;omega,by rw [R8 Hlo.out];exact hs⟩
    ·simp only [intOf];omega
  ·have hjI:¬ (j:Int)<rs.length:=(by omega);have e:j=rs.length:=(by omega);subst e;go_wp2_with fail
   go_end0
   exact ⟨rfl,rs',S',hb,hlk,hk,hx,by have:=Hn.out;omega,hs⟩
def Fl (S:ST) (rs:List BF) (fs:List Int) (Xs:Nat→List Nat→Prop):Prop:=fs.length=rs.length∧∀ (i:Nat) (r:BF) (f:Int),rs[i]?=some r→fs[i]?=some f→GW S f r.n (Xs i)
theorem Fl.ext {S S':ST} {rs:List BF} {fs:List Int} {Xs:Nat→List Nat→Prop} (h:Fl S rs fs Xs) (x:EK S S') (hw:WF S) (hw':WF S'):Fl S' rs fs Xs:=⟨h.1,fun i r f h1 h2=>(h.2 i r f h1 h2).ext x hw hw'⟩
theorem Fl.like {S:ST} {rs rs':List BF} {fs:List Int} {Xs:Nat→List Nat→Prop} (h:Fl S rs fs Xs) (k:DV rs rs'):Fl S rs' fs Xs:=⟨by rw [h.1,k.1],fun i r f h1 h2=>by
 have hl:i<rs.length:=by rw [←k.1];exact (AL.1 h1).1
 obtain ⟨r',e1,e2⟩:=k.2 i _ (AB hl);rw [h1] at e1;cases e1;rw [e2.n]
 exact h.2 i _ f (AB hl) h2⟩
noncomputable def EJ (rks:Nat→List Nat→Option Nat) (Xs:Nat→List Nat→Prop) (rank j:Nat):Nat→List Nat→Option Nat:=fun i=>if i<j then Fk (rks i) (Xs i) rank else rks i
theorem SJ {rks:Nat→List Nat→Option Nat} {Xs:Nat→List Nat→Prop} {rank j:Nat}:EJ rks Xs rank (j+1)=nH (EJ rks Xs rank j) j (Fk (rks j) (Xs j) rank):=by
 funext i
 unfold EJ nH;by_cases e:i=j
 ·subst e;rw [if_pos (by omega),if_pos rfl]
 ·have:i<j+1↔i<j:=by omega
  simp only [this,e,if_false]
def gB (fs:List Int) (j:Nat):Bool:=(fs.take j).any (fun f=>f != 0)
theorem jB {fs:List Int} {j:Nat} {f:Int} (h:fs[j]?=some f):gB fs (j+1)=(gB fs j || f != 0):=by
 unfold gB;rw [An,h];simp
theorem Uj {w:World} {bb gr cr:Nat} {B:SB} {S:ST} {rs:List BF} {x0 x1 x3:Value} (h:F9 w bb B S gr cr rs x0 x1 x3) {Fs:Nat→List Nat→Prop} {rks:Nat→List Nat→Option Nat} (ha:En S rs Fs rks) {gf cf:Nat} {fs:List Int} (hrow:B8 w gf fs) (hgf:gf∉ftp B gr rs) {Xs:Nat→List Nat→Prop} (hf:Fl S rs fs Xs) (rank:Nat) (hl:S.next+24570<GN) :
  Calls prog 218 #[.pointer (some ⟨bb,0,none⟩),.slice (some ⟨gf,0,none⟩) fs.length cf,.int .i64 (rank:Int)] w fun e w'=>e=.returned (.bool (gB fs fs.length))∧∃ rs' S',F9 w' bb B S' gr cr rs' x0 x1 x3∧DV rs rs'∧AA (ftp B gr rs) w w'∧EK S S'∧S'.next≤S.next+24570∧En S' rs' Fs (EJ rks Xs rank rs.length):=by
 have h6:=h.few;have hlen:=hf.1;have Hl:=AD hl;have Hlen:=AD hlen;have hf6:fs.length≤6:=by omega
 clear hl hlen;go_in
 go_wp2_with fail
 go_loopw [7,12] (fun x y wr=>∃ (j:Nat) (rs':List BF) (S':ST),x=.bool (gB fs j)∧y=.int .i64 j∧j≤fs.length∧F9 wr bb B S' gr cr rs' x0 x1 x3∧DV rs rs'∧AA (ftp B gr rs) w wr∧EK S S'∧S'.next≤S.next+4095 * j∧En S' rs' Fs (EJ rks Xs rank j)) (fun _ y _=>((fs.length:Int) - intOf y).toNat)
 case atStart=>exact ⟨0,rs,S,rfl,rfl,by omega,h,DV.refl rs,AA.refl _ _,EK.refl S,by omega,fun i r hi=>by
  have e:EJ rks Xs rank 0=rks:=by funext i;unfold EJ;rw [if_neg (by omega)]
  rw [e];exact ha i r hi⟩
 case round=>
  obtain ⟨j,rs',S',rfl,rfl,hj,hb,hlk,hk,hx,hn,hs⟩:=hrel;have Hn:=AD hn;clear hn;by_cases hjl:j<fs.length
  ·have hjI:(j:Int)<fs.length:=(by omega);have hjr:j<rs'.length:=by rw [hlk.1,←Hlen.out];exact hjl
   have hjrI:(j:Int)<rs'.length:=(by omega);obtain ⟨f,hff⟩:∃ f,fs[j]?=some f:=⟨_,AB hjl⟩;obtain ⟨r,hr⟩:∃ r,rs'[j]?=some r:=⟨_,AB hjr⟩;have hrw:=hrow.keepsE hk hgf;have g0:=hrw.cell hff;have g2:=hb.cells.cell 2;simp at g2;have e1:EJ rks Xs rank j j=rks j:=by unfold EJ;rw [if_neg (by omega)]
   have hadd:=AD (Xy hb hr (by have:=hs j r hr;rw [e1] at this;exact this) (x:=f) (X:=Xs j) (((hf.like hlk).2 j r f hr hff).ext hx h.eng.wf hb.eng.wf) rank (by have:=Hl.out;have:=Hn.out;omega));have Hst:=AD (jB hff);have Hr:=AD hr;have hjr0:j<rs.length:=by rw [←Hlen.out];exact hjl
   clear hff hr e1 hjr;go_wp2_with fail
   refine hadd.out.mono ?_;rintro e w5 ⟨rfl,r',S5,hb5,k5,x5,n5,lk5,hs5⟩;rw [hlk.ftp] at k5;have Hn5:=AD n5;clear n5 hadd
   have Hfin:Hid (∃ (j_1:Nat) (rs':List BF) (S':ST),Value.bool (gB fs (j+1))=.bool (gB fs j_1)∧Value.int .i64 ((j:Int)+1)=.int .i64 j_1∧j_1≤fs.length∧F9 w5 bb B S' gr cr rs' x0 x1 x3∧DV rs rs'∧AA (ftp B gr rs) w w5∧EK S S'∧S'.next≤S.next+4095 * j_1∧En S' rs' Fs (EJ rks Xs rank j_1)):=
    ⟨j+1,rs'.set j r',S5,rfl,by simp,by omega,hb5,hlk.trans (DV.set Hr.out lk5),hk.trans k5,hx.trans x5,by have:=Hn.out;have:=Hn5.out;push_cast;omega,by rw [SJ];exact (hs.ext x5 hb.eng.wf hb5.eng.wf).set hs5⟩
   rw [Hst.out] at Hfin;cases hg:gB fs j
   all_goals
    rw [hg] at Hfin;go_wp2_with fail
    refine ⟨?_,by simp only [intOf];omega⟩;have:=Hfin.out;simpa using this
  ·have hjI:¬ (j:Int)<fs.length:=(by omega);have e:j=fs.length:=(by omega);subst e;go_wp2_with fail
   go_ret
   exact ⟨rfl,rs',S',hb,hlk,hk,hx,by have:=Hn.out;omega,by rw [←Hlen.out];exact hs⟩
def Jl (Xs:Nat→List Nat→Prop) (rks:Nat→List Nat→Option Nat) (j:Nat):Nat→List Nat→Prop:=fun i l=>Xs i l∧(i<j→(rks i l).isSome≠true)
theorem Kq {w:World} {bb gr cr:Nat} {B:SB} {S:ST} {rs:List BF} {x0 x1 x3:Value} (h:F9 w bb B S gr cr rs x0 x1 x3) {Fs:Nat→List Nat→Prop} {rks:Nat→List Nat→Option Nat} (ha:En S rs Fs rks) {gf cf:Nat} {fs:List Int} (hrow:B8 w gf fs) (hgf:gf∉ftp B gr rs) (hgb:gf≠bb) {Xs:Nat→List Nat→Prop} (hf:Fl S rs fs Xs) (hl:S.next+24570<GN) :
  Calls prog 265 #[.pointer (some ⟨bb,0,none⟩),.slice (some ⟨gf,0,none⟩) fs.length cf] w fun e w'=>e=.returned (.slice (some ⟨gf,0,none⟩) fs.length cf)∧∃ fs' S',DB w' B S'∧B8 w' gf fs'∧AA (gf :: B.own) w w'∧EK S S'∧S'.next≤S.next+24570∧Fl S' rs fs' (Jl Xs rks rs.length):=by
 have h6:=h.few;have hlen:=hf.1;have Hl:=AD hl;have Hlen:=AD hlen;have hf6:fs.length≤6:=by omega
 have hgB:gf∉B.own:=fun q=>hgf (by simp [ftp,q]);have hgr:gf≠gr:=fun q=>hgf (by simp [ftp,q]);obtain ⟨cs,hc,hcs⟩:=h.rel;clear hl hlen;go_in
 go_wp2_with fail
 go_loopw [9] (fun y wr=>∃ (j:Nat) (fs':List Int) (S':ST),y=.int .i64 j∧j≤fs.length∧DB wr B S'∧B8 wr gf fs'∧AA (gf :: B.own) w wr∧EK S S'∧S'.next≤S.next+4095 * j∧Fl S' rs fs' (Jl Xs rks j)) (fun y _=>((fs.length:Int) - intOf y).toNat)
 case atStart=>exact ⟨0,fs,S,rfl,by omega,h.eng,hrow,AA.refl _ _,EK.refl S,by omega,hf.1,fun i r f h1 h2=>(hf.2 i r f h1 h2).iff fun l _=>⟨fun q=>⟨q,fun q=>by omega⟩,fun q=>q.1⟩⟩
 case round=>
  obtain ⟨j,fs',S',rfl,hj,hE,hr,hk,hx,hn,hs⟩:=hrel;have Hn:=AD hn;clear hn;have hkb:bb∉gf :: B.own:=By (Ne.symm hgb) h.bbB;have hkg:gr∉gf :: B.own:=By (Ne.symm hgr) h.grB;by_cases hjl:j<fs.length
  ·have hjI:(j:Int)<fs.length:=(by omega);have hjf:j<fs'.length:=by rw [hs.1,←Hlen.out];exact hjl
   have hjr:j<rs.length:=by rw [←Hlen.out];exact hjl
   have hjrI:(j:Int)<rs.length:=(by omega);obtain ⟨f,hff⟩:∃ f,fs'[j]?=some f:=⟨_,AB hjf⟩;obtain ⟨r,hrr⟩:∃ r,rs[j]?=some r:=⟨_,AB hjr⟩;have c:=hcs j r hrr;have hcr:=hc.keeps hk hkg;have hcb:=h.cells.keeps hk hkb;have g0:=hr.cell hff;have g2:=hcb.cell 2;have g4:=hcb.cell 4;simp at g2 g4;have g3:wr.cell? ⟨gr,j * 5+3,none⟩=some (.int .i64 r.tu):=by rw [hcr.cell];exact c.c3
   have hRf:=hs.2 j r f hrr hff;have hRt:=(ha j r hrr).tu.ext hx h.eng.wf hE.wf;have hd:=AD (fun (W:World) (k:AA [] wr W)=>dX (hE.keeps0 k) (f:=f) (g:=r.tu) ⟨hRf.1,hRf.2⟩ ⟨hRt.1,hRt.2⟩ (by have:=Hl.out;have:=Hn.out;omega))
   have h7:=AD (fun (W7:World) (k:AA B.own wr.drew W7) (v:Value)=>
    let hb7:=(hcb.keeps (AA.drew [] wr)).keeps k h.bbB;let hg7:=(hcr.keeps (AA.drew [] wr)).keeps k h.grB;let hr7:=(hr.keepsE (AA.drew [] wr)).keepsE k hgB;let kS:=AA.setCell W7 ⟨gf,j,none⟩ v;Ak (show W7.cell? ⟨bb,2,none⟩=some (.slice (some ⟨gr,0,none⟩) rs.length cr) from by have:=hb7.cell 2;simpa using this) <| Ak (show W7.cell? ⟨bb,4,none⟩=some (.pointer (some ⟨B.b,0,none⟩)) from by have:=hb7.cell 4;simpa using this) <| Ak (show W7.cell? ⟨gr,j * 5+3,none⟩=some (.int .i64 r.tu) from by rw [hg7.cell];exact c.c3) <|
    Ak (hr7.cell hff) <| Ak (hr7.frozenE j) <| Ak (show (W7.setCell ⟨gf,j,none⟩ v).cell? ⟨bb,2,none⟩=some (.slice (some ⟨gr,0,none⟩) rs.length cr) from by have:=(hb7.keeps kS (by simpa using Ne.symm hgb)).cell 2;simpa using this) <| Ak (show (W7.setCell ⟨gf,j,none⟩ v).cell? ⟨bb,4,none⟩=some (.pointer (some ⟨B.b,0,none⟩)) from by have:=(hb7.keeps kS (by simpa using Ne.symm hgb)).cell 4;simpa using this) (show (W7.setCell ⟨gf,j,none⟩ v).cell? ⟨gr,j * 5+3,none⟩=some (.int .i64 r.tu) from by rw [(hg7.keeps kS (by simpa using Ne.symm hgr)).cell];exact c.c3))
   have Hff:=AD hff;have Hrr:=AD hrr;clear hff hrr hcr hcb hRf hRt c;go_wp2_with fail
   go_region_held3 (fun w'=>w'.cell? ⟨bb,2,none⟩=some (.slice (some ⟨gr,0,none⟩) rs.length cr)∧w'.cell? ⟨bb,4,none⟩=some (.pointer (some ⟨B.b,0,none⟩))∧w'.cell? ⟨gr,j * 5+3,none⟩=some (.int .i64 r.tu)) (first | exact ⟨g2,g4,g3⟩ | exact ⟨a0,a1,a2⟩ | exact ⟨(h7.out _ k5 _).2.2.2.2.2.1,(h7.out _ k5 _).2.2.2.2.2.2.1,(h7.out _ k5 _).2.2.2.2.2.2.2⟩)
    (first
    | (go_at_call 88
       refine (hd.out _ (AA.drew [] _)).mono ?_;rintro e W5 ⟨t,S5,rfl,hE5,k5,x5,n5,hr5⟩
       obtain ⟨a0,a1,a2,a3,a4,_⟩:=h7.out W5 k5 undef))
   all_goals
    have hr6:=(((hr.keepsE (AA.drew [] wr)).keepsE k5 hgB).setE j t);have kS:=AA.setCell W5 ⟨gf,j,none⟩ (.int .i64 t);have hE6:=hE5.keeps kS (fun q hq hm=>hgB (by simp only [AF] at hm;rw [←hm];exact hq));have Hn5:=AD n5;clear h7 hd n5 g0 g2 g3 g4 a0 a1 a2 a3 a4;go_wp2_with fail
    go_roundw
    ·refine ⟨j+1,fs'.set j t,S5,by simp,by omega,hE6,hr6,((hk.trans ((AA.drew [] wr).mono (by simp))).trans (k5.mono (fun q hq=>AP _ hq))).trans (kS.mono (by simp)),hx.trans x5,by have:=Hn.out;have:=Hn5.out;push_cast;omega,by rw [BI];exact hs.1,fun i q y hq hy=>?_⟩;rw [Aw] at hy;by_cases e:j=i
     ·subst e;rw [if_pos rfl,if_pos hjf] at hy;cases hy;rw [Hrr.out] at hq;cases hq;refine ⟨hr5.1,fun σ=>?_⟩;rw [hr5.2];unfold Jl;exact ⟨fun hh=>⟨hh.1.1,fun _=>hh.2⟩,fun hh=>⟨⟨hh.1,fun hlt=>by omega⟩,hh.2 (by omega)⟩⟩
     ·rw [if_neg e] at hy;refine ((hs.ext x5 hE.wf hE5.wf).2 i q y hq hy).iff fun l _=>?_;unfold Jl;have:i<j+1↔i<j:=(by omega);rw [this]
    ·simp only [intOf];omega
  ·have hjI:¬ (j:Int)<fs.length:=(by omega);have e:j=fs.length:=(by omega);subst e;go_wp2_with fail
   go_ret
   exact ⟨rfl,fs',S',hE,hr,hk,hx,by have:=Hn.out;omega,by rw [←Hlen.out];exact hs⟩
end
end Go.Proofs.YtgjomknpjigkhaaGreatDoor
