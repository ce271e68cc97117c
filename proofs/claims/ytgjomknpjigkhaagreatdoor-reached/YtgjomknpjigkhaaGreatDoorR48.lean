import Derived.Test.YtgjomknpjigkhaaGreatDoorR47
import Derived.Test.YtgjomknpjigkhaaGreatDoorR45
namespace Go.Proofs.YtgjomknpjigkhaaGreatDoor
section
open Go.RowKit
def worksP:List Pc:=domP 3 ++ relP2 [101] .sp ++ relP2 [112] .sp ++ ePz (0,1) ++ ePz (1,2) ++ wayP1 .sp ++ atP2 [112] (vrP 88) (vrP 90) ++ [.sp,.t .arrow,.sp] ++ atP2 [112] (vrP 88) (vrP 89) ++ [.t .comma,.sp] ++ atP2 [101] (vrP 89) (vrP 90) ++ [.t .dot]
def worksC:List ClauseM:=[⟨⟨0,[cT 0,cT 1]⟩,[],1⟩,⟨⟨0,[cT 1,cT 2]⟩,[],1⟩,way1 0 1 1,way2 0 1 1]
def worksM:Mean:=⟨[(ba [100],3)],[(ba [101],[0,0]),(ba [112],[0,0])],worksC⟩
def worksI:List ItemI:=[.dom (dT 1) ⟨.int (dgB 3),1⟩,.rel ⟨.name (ba [101]),1⟩ [dT 1,dT 1],.rel ⟨.name (ba [112]),1⟩ [dT 1,dT 1],eI2 1 (0,1),eI2 1 (1,2),
 .clause (atI2 [112] (vS 88) (vS 89) 1) [⟨atI2 [101] (vS 88) (vS 89) 1,false⟩],
 .clause (atI2 [112] (vS 88) (vS 90) 1) [⟨atI2 [112] (vS 88) (vS 89) 1,false⟩,⟨atI2 [101] (vS 89) (vS 90) 1,false⟩]]
set_option maxRecDepth 100000 in
theorem worksP_ok:okP worksP = true:=by rfl
theorem worksP_items (us:List Tn):ItemsTo (toksP worksP 1 ++ us) worksI us:=by
 refine ItemsTo.trans (is:=[_]) (ItemsTo.one (us:=toksP (relP2 [101] .sp ++ relP2 [112] .sp ++ ePz (0,1) ++ ePz (1,2) ++ wayP1 .sp ++ atP2 [112] (vrP 88) (vrP 90) ++ [.sp,.t .arrow,.sp] ++ atP2 [112] (vrP 88) (vrP 89) ++ [.t .comma,.sp] ++ atP2 [101] (vrP 89) (vrP 90) ++ [.t .dot]) 1 ++ us) rfl rfl) ?_
 refine ItemsTo.trans (is:=[_]) (ItemsTo.one (us:=toksP (relP2 [112] .sp ++ ePz (0,1) ++ ePz (1,2) ++ wayP1 .sp ++ atP2 [112] (vrP 88) (vrP 90) ++ [.sp,.t .arrow,.sp] ++ atP2 [112] (vrP 88) (vrP 89) ++ [.t .comma,.sp] ++ atP2 [101] (vrP 89) (vrP 90) ++ [.t .dot]) 1 ++ us) rfl rfl) ?_
 refine ItemsTo.trans (is:=[_]) (ItemsTo.one (us:=toksP (ePz (0,1) ++ ePz (1,2) ++ wayP1 .sp ++ atP2 [112] (vrP 88) (vrP 90) ++ [.sp,.t .arrow,.sp] ++ atP2 [112] (vrP 88) (vrP 89) ++ [.t .comma,.sp] ++ atP2 [101] (vrP 89) (vrP 90) ++ [.t .dot]) 1 ++ us) rfl rfl) ?_
 refine ItemsTo.trans (is:=[_]) (ItemsTo.one (us:=toksP (ePz (1,2) ++ wayP1 .sp ++ atP2 [112] (vrP 88) (vrP 90) ++ [.sp,.t .arrow,.sp] ++ atP2 [112] (vrP 88) (vrP 89) ++ [.t .comma,.sp] ++ atP2 [101] (vrP 89) (vrP 90) ++ [.t .dot]) 1 ++ us) rfl rfl) ?_
 refine ItemsTo.trans (is:=[_]) (ItemsTo.one (us:=toksP (wayP1 .sp ++ atP2 [112] (vrP 88) (vrP 90) ++ [.sp,.t .arrow,.sp] ++ atP2 [112] (vrP 88) (vrP 89) ++ [.t .comma,.sp] ++ atP2 [101] (vrP 89) (vrP 90) ++ [.t .dot]) 1 ++ us) rfl rfl) ?_
 refine ItemsTo.trans (is:=[_]) (ItemsTo.one (us:=toksP (atP2 [112] (vrP 88) (vrP 90) ++ [.sp,.t .arrow,.sp] ++ atP2 [112] (vrP 88) (vrP 89) ++ [.t .comma,.sp] ++ atP2 [101] (vrP 89) (vrP 90) ++ [.t .dot]) 1 ++ us) rfl rfl) ?_
 exact ItemsTo.one rfl rfl
theorem works_read:∃ toks,readS (ba (bytesP worksP)) = .ok (toks,worksM):=by
 have hs:=scan_pieces worksP (bytesP worksP).length 1 worksP_ok (Nat.le_refl _)
 have hi:=worksP_items [⟨.fin,lineP worksP 1⟩]
 refine ⟨withEnd (toksP worksP 1) (lineP worksP 1),?_⟩
 unfold readS
 rw [if_neg (show ¬ 1200 < (ba (bytesP worksP)).size by show ¬ 1200 < 101;omega),ba_size,hs]
 dsimp only
 have hl:(withEnd (toksP worksP 1) (lineP worksP 1)).length = (62 + 1) + worksI.length:=rfl
 rw [hl]
 have e1:itemsG ((62 + 1) + worksI.length) (withEnd (toksP worksP 1) (lineP worksP 1)) = .ok worksI:=by
  unfold withEnd
  rw [hi (62 + 1)]
  have e2:itemsG (62 + 1) [⟨.fin,lineP worksP 1⟩] = .ok []:=rfl
  rw [e2]
  simp
 rw [e1]
 dsimp only
 rw [show senseS emptyM worksI = .ok worksM from rfl]
 dsimp only
 rw [show laterS worksM = .ok worksM from rfl]
def twiceP:List Pc:=[.t .dom,.sp,nmP [100],.sp,inP 3,.t .semi,.sp,.t .dom,.sp,nmP [100],.sp,inP 2,.t .semi]
theorem twice_read:readS (ba (bytesP twiceP)) = .error (7,1):=by
 have hs:=scan_pieces twiceP (bytesP twiceP).length 1 (by rfl) (Nat.le_refl _)
 unfold readS
 rw [if_neg (show ¬ 1200 < (ba (bytesP twiceP)).size by show ¬ 1200 < 17;omega),ba_size,hs]
 rfl
theorem works_way {r x y:Nat} (h:Way (fun a b=>(a,b) = (0,1)∨(a,b) = (1,2)) 8 r x y):(x = 0∧y = 1∧r = 1)∨(x = 1∧y = 2∧r = 1)∨(x = 0∧y = 2∧r = 2):=by
 induction h with
 | one h=>
  rcases h with h | h
  ·cases h;exact .inl ⟨rfl,rfl,rfl⟩
  ·cases h;exact .inr (.inl ⟨rfl,rfl,rfl⟩)
 | cons h1 _ _ ih=>
  rcases h1 with h1 | h1
  ·cases h1
   rcases ih with ⟨q,_⟩ | ⟨_,rfl,rfl⟩ | ⟨q,_⟩
   ·cases q
   ·exact .inr (.inr ⟨rfl,rfl,rfl⟩)
   ·cases q
  ·cases h1
   rcases ih with ⟨q,_⟩ | ⟨q,_⟩ | ⟨q,_⟩ <;> cases q
theorem works_facts {i:Nat} {l:List Nat}:factsOf worksC i l↔i = 0∧(l = [0,1]∨l = [1,2]):=by
 constructor
 ·rintro ⟨c,hc,hl,hr,ν,_,ht⟩
  simp only [worksC,List.mem_cons,List.not_mem_nil,or_false] at hc
  rcases hc with rfl | rfl | rfl | rfl
  ·exact ⟨hr.symm,.inl (by rw [← ht];rfl)⟩
  ·exact ⟨hr.symm,.inr (by rw [← ht];rfl)⟩
  ·cases hl
  ·cases hl
 ·rintro ⟨rfl,rfl | rfl⟩
  ·exact ⟨_,List.mem_cons_self ..,rfl,rfl,[0,0,0,0],alls4 (by omega) (by omega) (by omega) (by omega),rfl⟩
  ·exact ⟨⟨⟨0,[cT 1,cT 2]⟩,[],1⟩,by simp [worksC],rfl,rfl,[0,0,0,0],alls4 (by omega) (by omega) (by omega) (by omega),rfl⟩
theorem works_holds {vals:List Nat} (hl:LayI worksC 2 vals) {rk:Nat→List Nat→Option Nat} (h:LaysP worksM vals (factsOf worksC) (fun _ _=>none) 2 rk):rk 1 [0,2] = some 2∧rk 1 [2,0] = none∧(alls 2).filter (fun l=>(rk 1 l).isSome) = [[0,1],[0,2],[1,2]]:=by
 have hst:StableG layG worksC [0,0]:=fun c hc l hl=>by
  simp only [worksC,List.mem_cons,List.not_mem_nil,or_false] at hc
  rcases hc with rfl | rfl | rfl | rfl
  ·cases hl
  ·cases hl
  ·simp only [way1,List.mem_cons,List.not_mem_nil,or_false] at hl
   subst hl;rfl
  ·simp only [way2,List.mem_cons,List.not_mem_nil,or_false] at hl
   rcases hl with rfl | rfl <;> rfl
 have h0:=hl.2.2 _ hst 0
 have h1:=hl.2.2 _ hst 1
 have v0:vals.getD 0 0 = 0:=by simp at h0;simp;omega
 have v1:vals.getD 1 0 = 0:=by simp at h1;simp;omega
 have hn:worksM.rels.length = 2:=rfl
 have hR:∀ lay,rulesL worksM vals lay = if lay = 0 then [way1 0 1 1,way2 0 1 1] else []:=fun lay=>by
  show ([way1 0 1 1,way2 0 1 1]:List ClauseM).filter (fun c=>decide (vals.getD c.head.rel 0 = lay)) = _
  simp only [List.filter_cons,List.filter_nil]
  rw [show (way1 0 1 1).head.rel = 1 from rfl,show (way2 0 1 1).head.rel = 1 from rfl,v1]
  by_cases e:lay = 0
  ·subst e;rfl
  ·have:¬ (0 = lay):=fun q=>e q.symm
   simp [*]
 have key:∀ x y,x < 8→y < 8→∀ r,rk 1 [x,y] = some r↔(x = 0∧y = 1∧r = 1)∨(x = 1∧y = 2∧r = 1)∨(x = 0∧y = 2∧r = 2):=by
  cases h with
  | step h1 s1=>cases h1 with
   | step h0 s0=>
    cases h0
    have e1:=s1.none (by rw [hR];rfl) (fun i hi=>by
     rw [hn] at hi
     have:i = 0∨i = 1:=by omega
     rcases this with rfl | rfl
     ·rw [v0];decide
     ·rw [v1];decide)
    subst e1
    intro x y hx hy r
    have hw:=ways_lay s0 (by rw [hR];rfl) (by decide) (by decide) (by decide) v0 v1 (E:=fun a b=>(a,b) = (0,1)∨(a,b) = (1,2)) (fun a b _ _=>by rw [works_facts];simp) (fun a b q=>by rcases q with q | q <;> cases q <;> exact ⟨by omega,by omega⟩) (fun l q=>by cases (works_facts.1 q).1) hx hy r
    rw [hw]
    constructor
    ·rintro ⟨a,_⟩;exact works_way a
    ·have w1:Way (fun a b=>(a,b) = (0,1)∨(a,b) = (1,2)) 8 1 0 1:=.one (.inl rfl)
     have w2:Way (fun a b=>(a,b) = (0,1)∨(a,b) = (1,2)) 8 1 1 2:=.one (.inr rfl)
     rintro (⟨rfl,rfl,rfl⟩ | ⟨rfl,rfl,rfl⟩ | ⟨rfl,rfl,rfl⟩)
     ·exact ⟨w1,fun q hq hw=>by have:=hw.pos;omega⟩
     ·exact ⟨w2,fun q hq hw=>by have:=hw.pos;omega⟩
     ·exact ⟨w1.trans (by omega) w2,fun q hq hw=>by
       rcases works_way hw with ⟨_,q,_⟩ | ⟨q,_⟩ | ⟨_,_,q⟩
       ·cases q
       ·cases q
       ·omega⟩
 refine ⟨(key 0 2 (by omega) (by omega) 2).2 (.inr (.inr ⟨rfl,rfl,rfl⟩)),?_,?_⟩
 ·cases hz:rk 1 [2,0] with
  | none=>rfl
  | some q=>rcases (key 2 0 (by omega) (by omega) q).1 hz with ⟨q,_⟩ | ⟨q,_⟩ | ⟨q,_⟩ <;> cases q
 ·have:(alls 2).filter (fun l=>(rk 1 l).isSome) = (alls 2).filter (fun l=>decide (l = [0,1]∨l = [0,2]∨l = [1,2])):=by
   apply List.filter_congr
   intro l hl
   obtain ⟨h1,h2⟩:=alls_iff.1 hl
   match l,h1 with
   | [x,y],_=>
    have hx:=h2 x (by simp)
    have hy:=h2 y (by simp)
    rw [Bool.eq_iff_iff,decide_eq_true_eq,Option.isSome_iff_exists]
    constructor
    ·rintro ⟨r,hr⟩
     rcases (key x y hx hy r).1 hr with ⟨rfl,rfl,_⟩ | ⟨rfl,rfl,_⟩ | ⟨rfl,rfl,_⟩ <;> simp
    ·intro q
     simp at q
     rcases q with ⟨rfl,rfl⟩ | ⟨rfl,rfl⟩ | ⟨rfl,rfl⟩
     ·exact ⟨1,(key 0 1 hx hy 1).2 (.inl ⟨rfl,rfl,rfl⟩)⟩
     ·exact ⟨2,(key 0 2 hx hy 2).2 (.inr (.inr ⟨rfl,rfl,rfl⟩))⟩
     ·exact ⟨1,(key 1 2 hx hy 1).2 (.inr (.inl ⟨rfl,rfl,rfl⟩))⟩
  rw [this]
  decide
end
section
open Go.RowKit Go.Shelf
attribute [local go_sem] Oper.semAt_some
theorem works_tup {l:List Nat} (h:l = [0,2]∨l = [2,0]):TupOk worksM 1 l:=⟨⟨ba [112],[0,0],rfl,by rcases h with rfl | rfl <;> rfl,fun k x d h1 h2=>by
 have hd:d = 0:=by
  match k,h2 with
  | 0,h2=>simpa using h2.symm
  | 1,h2=>simpa using h2.symm
  | k + 2,h2=>simp at h2
 subst hd
 show (x:Int) < 3
 rcases h with rfl | rfl
 ·match k,h1 with
  | 0,h1=>simp at h1;omega
  | 1,h1=>simp at h1;omega
  | k + 2,h1=>simp at h1
 ·match k,h1 with
  | 0,h1=>simp at h1;omega
  | 1,h1=>simp at h1;omega
  | k + 2,h1=>simp at h1⟩⟩
theorem row2 (W:World) (a b:Nat):RowIs (W.alloc (.cells #[.int .i64 (a:Int),.int .i64 (b:Int)] 3)) W.heap.size (dgs [a,b]):=⟨_,CellsAt.new W _ 3,fun i x hx=>by
 match i with
 | 0=>simp [dgs] at hx;subst hx;rfl
 | 1=>simp [dgs] at hx;subst hx;rfl
 | i + 2=>simp [dgs] at hx⟩
set_option maxRecDepth 100000 in
set_option maxHeartbeats 4000000 in
theorem works_calls (w:World):Calls Tryz.prog 13 #[] w fun e w'=>e = .returned (.bool true)∧Keeps [] w w':=by
 obtain ⟨toks,hread⟩:=works_read
 have hfine:=readS_fine hread
 have hld:=hide (fun (W:World)=>load_text (w:=W) (ba (bytesP worksP)) (by decide) (fun t m h=>by rw [hread] at h;cases h;decide))
 rw [hread] at hld
 have hck:=hide (fun (W:World)=>check_text (w:=W) (ba (bytesP twiceP)) (by decide))
 rw [twice_read] at hck
 have et:({ data:=([100,111,109,32,100,32,51,59,32,114,101,108,32,101,40,100,44,32,100,41,59,32,114,101,108,32,112,40,100,44,32,100,41,59,32,101,40,48,44,32,49,41,46,32,101,40,49,44,32,50].append [41,46,32,112,40,88,44,32,89,41,32,58,45,32,101,40,88,44,32,89,41,46,32,112,40,88,44,32,90,41,32,58,45,32,112,40,88,44,32,89,41,44,32,101,40,89,44,32,90,41,46]).toArray }:ByteArray) = ba (bytesP worksP):=by rfl
 have et2:({ data:=#[100,111,109,32,100,32,51,59,32,100,111,109,32,100,32,50,59] }:ByteArray) = ba (bytesP twiceP):=by rfl
 have ep:({ data:=#[112] }:ByteArray) = ba [112]:=rfl
 have hp:placeB (worksM.rels.map Prod.fst) (ba [112]) = some 1:=by decide
 go_enter Tryz.func13,Tryz.ntmps13
 rw [et,et2,ep]
 generalize ba (bytesP worksP) = t1 at *
 generalize ba (bytesP twiceP) = t2 at *
 generalize ba [112] = sp at *
 clear et et2 ep hread
 go_wp2_with fail
 refine (hld.out _).mono ?_
 rintro e W1 ⟨⟨eb,bb,B,S,gr,cr,rs,tv,mv,ka,ks,kc,vals,rk,rfl,hM⟩,k1⟩
 obtain ⟨hr1,hr2,hr3⟩:=works_holds hM.lay (hM.lays hfine)
 have kF:=Keeps.alloc [] W1 (.cells #[.int .i64 0,.int .i64 0] 28)
 have hF:=CellsAt.new W1 #[.int .i64 0,.int .i64 0] 28
 have zF:=sizeE_alloc W1 (.cells #[.int .i64 0,.int .i64 0] 28)
 generalize hWF:W1.alloc (.cells #[.int .i64 0,.int .i64 0] 28) = WF at *
 obtain ⟨c0,f0,c1,f1,hat,hk⟩:=res2 hF (.int .i64 0) (.int .i64 0)
 have k2:Keeps [] W1 ((WF.setCell ⟨W1.heap.size,0,none⟩ (.int .i64 0)).setCell ⟨W1.heap.size,1,none⟩ (.int .i64 0)):=kF.trans_new hk (fun i hi=>.inr (by simp only [List.mem_singleton] at hi;omega))
 have g0:=hat.cell 0
 have g1:=hat.cell 1
 simp at g0 g1
 have hM2:=hM.keeps0 k2
 have htp:=hide (tuples18_calls hM2.eng hfine hM2.cell hp (i:=1) (nm:=ba [112]) (cols:=[0,0]) rfl)
 rw [show [0,0].length = 2 from rfl,hr3] at htp
 have K2:=hide k2
 clear hat hk hF kF k2 hM
 go_wp2_with fail
 refine htp.out.mono ?_
 rintro e W3 ⟨v,xs,rfl,hxs,hown,_,k3⟩
 have hl3:xs.length = 3:=by have:=congrArg List.length hxs;simpa using this
 rw [hl3] at hown
 obtain ⟨av,cv,hv⟩:=ownE_len hown
 subst hv
 have hM3:=hM2.keeps0 k3
 have kA:=Keeps.alloc [] W3 (.cells #[.int .i64 0,.int .i64 2] 3)
 have hrA:=row2 W3 0 2
 have hMA:=hM3.keeps0 kA
 have hra:=hide (rank29_calls (cap:=2) hMA.eng hfine.ok hMA.cell hp hrA (works_tup (.inl rfl)))
 rw [hr1] at hra
 have Hk3:=hide (K2.out.trans k3)
 clear hown htp hxs hl3 c0 c1 f0 f1 g0 g1 k3
 simp only [List.length_cons,List.length_nil] at hra
 go_wp2_with fail
 refine hra.out.mono ?_
 rintro e W4 ⟨rfl,k4⟩
 have hM4:=hMA.keeps0 k4
 have kB:=Keeps.alloc [] W4 (.cells #[.int .i64 2,.int .i64 0] 3)
 have hrB:=row2 W4 2 0
 have hMB:=hM4.keeps0 kB
 have hrb:=hide (rank29_calls (cap:=2) hMB.eng hfine.ok hMB.cell hp hrB (works_tup (.inr rfl)))
 rw [hr2] at hrb
 simp only [List.length_cons,List.length_nil] at hrb
 have Hk4:=hide ((Hk3.out.trans kA).trans k4)
 go_wp2_with fail
 refine hrb.out.mono ?_
 rintro e W5 ⟨rfl,k5⟩
 go_wp2_with fail
 refine (hck.out _).mono ?_
 rintro e W6 ⟨rfl,k6⟩
 have kG:=Keeps.alloc [] W6 (.cells #[.int .i64 0,.int .i64 0] 28)
 have hG:=CellsAt.new W6 #[.int .i64 0,.int .i64 0] 28
 have zG:=sizeE_alloc W6 (.cells #[.int .i64 0,.int .i64 0] 28)
 generalize hWG:W6.alloc (.cells #[.int .i64 0,.int .i64 0] 28) = WG at *
 obtain ⟨c0,f0,c1,f1,hat,hk⟩:=res2 hG (.int .i64 7) (.int .i64 1)
 have g0:=hat.cell 0
 have g1:=hat.cell 1
 simp at g0 g1
 have Hfin:=hide ((((Hk4.out.trans kB).trans k5).trans k6).trans_new (kG.trans_new hk (fun i hi=>.inr (by simp only [List.mem_singleton] at hi;omega))) (fun i hi=>by simp at hi))
 clear hat hk hG kG hM4 hMB hMA hM3 hM2
 simp only [fltOf]
 go_wp2_with fail
 go_ret
 exact ⟨rfl,k1.trans Hfin.out⟩
end
section
open Go.RowKit Go.Shelf
attribute [local go_sem] Oper.semAt_some
def pk3 (c n:Int):Int:=(if c < 0 then -(c + 1) else c) % n
theorem pk3_range (c:Int) {n:Int} (h:0 < n):0≤pk3 c n∧pk3 c n < n:=⟨Int.emod_nonneg _ (by omega),Int.emod_lt_of_pos _ h⟩
set_option maxHeartbeats 400000 in
theorem pick30_calls {w:World} (c n:Int) (c0:-9223372036854775808≤c) (c1:c≤9223372036854775807) (n0:0 < n) :
  Calls Tryz.prog 30 #[.int .i64 c,.int .i64 n] w fun e w'=>e = .returned (.int .i64 (pk3 c n))∧w' = w:=by
 have hn:¬ n = 0:=by omega
 by_cases hc:c < 0
 ·have h1:wrap64 (c + 1) = c + 1:=by unfold wrap64;omega
  have h2:wrap64 (-(c + 1)) = -(c + 1):=by unfold wrap64;omega
  have h3:-((c + 1).tmod n) = pk3 c n:=by
   unfold pk3
   rw [if_pos hc,← Int.neg_tmod]
   exact Int.tmod_eq_emod_of_nonneg (by omega)
  have H3:=hide h3
  clear h3
  go_enter Tryz.func30,Tryz.ntmps30
  go_wp2
  go_ret
  exact ⟨by rw [← H3.out];rfl,rfl⟩
 ·have h3:c % n = pk3 c n:=by
   unfold pk3
   rw [if_neg hc]
  have H3:=hide h3
  clear h3
  go_enter Tryz.func30,Tryz.ntmps30
  go_wp2
  go_ret
  exact ⟨by rw [← H3.out];rfl,rfl⟩
def MadeTo (w:World) (m:Mean) (e:Ending) (w':World):Prop:=∃ eb bb B S gr cr rs tv mv ka ks kc vals rk,e = .returned (.pointer (some ⟨eb,0,none⟩))∧Made w' w.heap.size eb m bb B S gr cr rs tv mv ka ks kc vals rk
set_option maxRecDepth 100000 in
set_option maxHeartbeats 4000000 in
theorem made21_calls {w:World} (s:ByteArray) (hs:s.size≤9223372036854775807) {toks:List Tn} {m:Mean} (hr:readS s = .ok (toks,m)) (hne:0 < m.rels.length):Calls Tryz.prog 21 #[.string s] w fun e w'=>MadeTo w m e w'∧Keeps [] w w':=by
 have hld:=hide (load_text (w:=w) s hs (fun t m' h=>by rw [hr] at h;cases h;exact hne))
 rw [hr] at hld
 clear hr
 go_enter Tryz.func21,Tryz.ntmps21
 go_wp2_with fail
 refine hld.out.mono ?_
 rintro e W1 ⟨⟨eb,bb,B,S,gr,cr,rs,tv,mv,ka,ks,kc,vals,rk,rfl,hM⟩,k1⟩
 have kF:=Keeps.alloc [] W1 (.cells #[.int .i64 0,.int .i64 0] 28)
 have hF:=CellsAt.new W1 #[.int .i64 0,.int .i64 0] 28
 have zF:=sizeE_alloc W1 (.cells #[.int .i64 0,.int .i64 0] 28)
 generalize hWF:W1.alloc (.cells #[.int .i64 0,.int .i64 0] 28) = WF at *
 obtain ⟨c0,f0,c1,f1,hat,hk⟩:=res2 hF (.int .i64 0) (.int .i64 0)
 have k2:Keeps [] W1 ((WF.setCell ⟨W1.heap.size,0,none⟩ (.int .i64 0)).setCell ⟨W1.heap.size,1,none⟩ (.int .i64 0)):=kF.trans_new hk (fun i hi=>.inr (by simp only [List.mem_singleton] at hi;omega))
 have g0:=hat.cell 0
 have g1:=hat.cell 1
 simp at g0 g1
 have hM2:=hide (hM.keeps0 k2)
 have K2:=hide (k1.trans k2)
 clear hat hk hF kF k2 hM k1
 go_wp2_with fail
 go_ret
 exact ⟨⟨eb,bb,B,S,gr,cr,rs,tv,mv,ka,ks,kc,vals,rk,rfl,hM2.out⟩,K2.out⟩
def FarC (cs:Array Value) (f:Nat→Nat→Nat):Prop:=cs.size = 64∧∀ a b,a < 8→b < 8→cs[a * 8 + b]? = some (.int .i64 (f a b:Int))
theorem FarC.set {cs:Array Value} {f:Nat→Nat→Nat} (h:FarC cs f) {a b:Nat} (ha:a < 8) (hb:b < 8) (x:Nat):FarC (cs.setIfInBounds (a * 8 + b) (.int .i64 (x:Int))) (updF f a b x):=by
 refine ⟨by rw [Array.size_setIfInBounds];exact h.1,fun p q hp hq=>?_⟩
 rw [Array.getElem?_setIfInBounds]
 by_cases e:a * 8 + b = p * 8 + q
 ·have e1:p = a:=by omega
  have e2:q = b:=by omega
  subst e1 e2
  rw [if_pos rfl,if_pos (by rw [h.1];omega)]
  simp [updF]
 ·have e2:¬ (p = a∧q = b):=fun ⟨r,s⟩=>e (by rw [r,s])
  rw [if_neg e,h.2 p q hp hq];simp [updF,e2]
def FarAt (w:World) (g:Nat) (f:Nat→Nat→Nat):Prop:=∃ cs,CellsAt w g cs∧FarC cs f
theorem FarAt.keeps {w w':World} {g:Nat} {f:Nat→Nat→Nat} {T:List Nat} (h:FarAt w g f) (k:Keeps T w w') (hg:g ∉ T):FarAt w' g f:=by
 obtain ⟨cs,h1,h2⟩:=h
 exact ⟨cs,h1.keeps k hg,h2⟩
theorem FarAt.cell {w:World} {g:Nat} {f:Nat→Nat→Nat} (h:FarAt w g f) {a b:Nat} (ha:a < 8) (hb:b < 8):w.cell? ⟨g,a * 8 + b,none⟩ = some (.int .i64 (f a b:Int)):=by
 obtain ⟨cs,h1,h2⟩:=h
 rw [h1.cell]
 exact h2.2 a b ha hb
end
section
open Go.RowKit
def IntsIn (w:World) (av:Option Addr) (es:List Int):Prop:=∀ (i:Nat) (x:Int),es[i]? = some x→-9223372036854775808≤x∧x≤9223372036854775807∧∃ a,av = some a∧w.cell? (a.add i) = some (.int .i64 x)
theorem decG_dg {k:Nat} (h:k < 10):decG (k:Int) = dgB k:=by
 have:k = 0∨k = 1∨k = 2∨k = 3∨k = 4∨k = 5∨k = 6∨k = 7∨k = 8∨k = 9:=by omega
 rcases this with rfl | rfl | rfl | rfl | rfl | rfl | rfl | rfl | rfl | rfl <;> rfl
theorem dgB_size (k:Nat):(dgB k).size = 1:=rfl
theorem ba_app (a b:List UInt8):ba a ++ ba b = ba (a ++ b):=by
 apply ba_ext
 simp [ba]
def txA (k i:Nat):ByteArray:=ba (bytesP (headZ k ++ (List.range i).flatMap nP))
def txB (k:Nat) (es:List (Nat × Nat)):ByteArray:=ba (bytesP (reachP k es))
theorem txA_size (k i:Nat):(txA k i).size = 142 + 6 * i:=by
 unfold txA
 rw [ba_size,bytesP_append,List.length_append,flat_len (n:=6) (fun _=>rfl),List.length_range]
 rfl
theorem txB_size (k:Nat) (es:List (Nat × Nat)):(txB k es).size = 142 + 6 * k + 9 * es.length:=by
 unfold txB reachP
 rw [ba_size,bytesP_append,bytesP_append,List.length_append,List.length_append,flat_len (n:=6) (fun _=>rfl),flat_len (n:=9) (fun _=>rfl),List.length_range]
 rfl
set_option maxRecDepth 100000 in
theorem txA_start (k:Nat):ba [100,111,109,32,100,32] ++ dgB k ++ ba [59,32,114,101,108,32,101,40,100,44,32,100,41,59,32,114,101,108,32,110,40,100,41,59,32,114,101,108,32,112,40,100,44,32,100,41,59,32,114,101,108,32,110,111,40,100,44,32,100,41,59,10] ++ ba ([112,40,88,44,32,89,41,32,58,45,32,101,40,88,44,32,89,41,46,32,112,40,88,44,32,90,41,32,58,45,32,112,40,88,44,32,89,41,44,32,101] ++ [40,89,44,32,90,41,46,32,110,111,40,88,44,32,89,41,32,58,45,32,110,40,88,41,44,32,110,40,89,41,44,32,33,112,40,88,44,32,89,41,46,10]) = txA k 0:=by
 unfold dgB
 rw [ba_app,ba_app,ba_app]
 rfl
theorem txA_next (k i:Nat):txA k i ++ ba [110,40] ++ dgB i ++ ba [41,46,32] = txA k (i + 1):=by
 unfold txA dgB
 rw [ba_app,ba_app,ba_app,List.range_succ,List.flatMap_append,← List.append_assoc,bytesP_append (headZ k ++ _),List.append_assoc,List.append_assoc]
 rfl
theorem txB_start (k:Nat):txA k k = txB k []:=by
 unfold txA txB reachP
 simp
theorem txB_next (k:Nat) (es:List (Nat × Nat)) (a b:Nat):txB k es ++ ba [101,40] ++ dgB a ++ ba [44,32] ++ dgB b ++ ba [41,46,32] = txB k (es ++ [(a,b)]):=by
 unfold txB dgB reachP
 rw [ba_app,ba_app,ba_app,ba_app,ba_app,List.flatMap_append,← List.append_assoc,bytesP_append (headZ k ++ _ ++ _)]
 simp only [List.append_assoc]
 rfl
def FwB (f:Nat→Nat→Nat) (k:Nat):Prop:=(∀ x y,f x y≤2 ^ (k + 1))∧(∀ x,f x k≤2 ^ k)∧∀ y,f k y≤2 ^ k
theorem FwB.start {f:Nat→Nat→Nat} {k:Nat} (h:∀ x y,f x y≤2 ^ k):FwB f k:=⟨fun x y=>by have:=h x y;rw [Nat.pow_succ];omega,fun x=>h x k,fun y=>h k y⟩
theorem FwB.step {f:Nat→Nat→Nat} {k:Nat} (h:FwB f k) (a b:Nat):FwB (fwStep f k a b) k:=by
 obtain ⟨h1,h2,h3⟩:=h
 have e:2 ^ (k + 1) = 2 * 2 ^ k:=by rw [Nat.pow_succ];omega
 refine ⟨fun x y=>?_,fun x=>?_,fun y=>?_⟩
 ·rcases fwStep_at f k a b x y with q | ⟨_,_,_,_,q⟩
  ·rw [q];exact h1 x y
  ·rw [q];have:=h2 a;have:=h3 b;omega
 ·unfold fwStep
  split
  ·unfold updF
   split
   ·rename_i hc hx
    obtain ⟨rfl,rfl⟩:=hx
    omega
   ·exact h2 x
  ·exact h2 x
 ·unfold fwStep
  split
  ·unfold updF
   split
   ·rename_i hc hx
    obtain ⟨rfl,rfl⟩:=hx
    omega
   ·exact h3 y
  ·exact h3 y
theorem fwStep_yes {f:Nat→Nat→Nat} {k a b:Nat} (h1:0 < f a k) (h2:0 < f k b) (h3:f a b = 0∨f a k + f k b < f a b):fwStep f k a b = updF f a b (f a k + f k b):=by
 unfold fwStep;rw [if_pos ⟨h1,h2,h3⟩]
theorem fwStep_no {f:Nat→Nat→Nat} {k a b:Nat} (h:¬ (0 < f a k∧0 < f k b∧(f a b = 0∨f a k + f k b < f a b))):fwStep f k a b = f:=by
 unfold fwStep;rw [if_neg h]
theorem reach_tup {k:Nat} {cs:List ClauseM} {i a b:Nat} (hi:i = 2∨i = 3) (ha:a < k) (hb:b < k):TupOk (reachM k cs) i [a,b]:=by
 have h:∀ (j x d:Nat),[a,b][j]? = some x→[0,0][j]? = some d→(x:Int) < (reachM k cs).size d:=fun j x d h1 h2=>by
  have hd:d = 0:=by
   match j,h2 with
   | 0,h2=>simpa using h2.symm
   | 1,h2=>simpa using h2.symm
   | j + 2,h2=>simp at h2
  subst hd
  show (x:Int) < (k:Int)
  match j,h1 with
  | 0,h1=>simp at h1;omega
  | 1,h1=>simp at h1;omega
  | j + 2,h1=>simp at h1
 rcases hi with rfl | rfl
 ·exact ⟨⟨ba [112],[0,0],rfl,rfl,h⟩⟩
 ·exact ⟨⟨ba [110,111],[0,0],rfl,rfl,h⟩⟩
theorem far_zero (W:World):FarAt (W.alloc (.cells #[.int .i64 0,.int .i64 0,.int .i64 0,.int .i64 0,.int .i64 0,.int .i64 0,.int .i64 0,.int .i64 0,.int .i64 0,.int .i64 0,.int .i64 0,.int .i64 0,.int .i64 0,.int .i64 0,.int .i64 0,.int .i64 0,.int .i64 0,.int .i64 0,.int .i64 0,.int .i64 0,.int .i64 0,.int .i64 0,.int .i64 0,.int .i64 0,.int .i64 0,.int .i64 0,.int .i64 0,.int .i64 0,.int .i64 0,.int .i64 0,.int .i64 0,.int .i64 0,.int .i64 0,.int .i64 0,.int .i64 0,.int .i64 0,.int .i64 0,.int .i64 0,.int .i64 0,.int .i64 0,.int .i64 0,.int .i64 0,.int .i64 0,.int .i64 0,.int .i64 0,.int .i64 0,.int .i64 0,.int .i64 0,.int .i64 0,.int .i64 0,.int .i64 0,.int .i64 0,.int .i64 0,.int .i64 0,.int .i64 0,.int .i64 0,.int .i64 0,.int .i64 0,.int .i64 0,.int .i64 0,.int .i64 0,.int .i64 0,.int .i64 0,.int .i64 0] 69)) W.heap.size (fun _ _=>0):=by
 refine ⟨_,CellsAt.new W _ 69,rfl,fun a b ha hb=>?_⟩
 have e:(#[.int .i64 0,.int .i64 0,.int .i64 0,.int .i64 0,.int .i64 0,.int .i64 0,.int .i64 0,.int .i64 0,.int .i64 0,.int .i64 0,.int .i64 0,.int .i64 0,.int .i64 0,.int .i64 0,.int .i64 0,.int .i64 0,.int .i64 0,.int .i64 0,.int .i64 0,.int .i64 0,.int .i64 0,.int .i64 0,.int .i64 0,.int .i64 0,.int .i64 0,.int .i64 0,.int .i64 0,.int .i64 0,.int .i64 0,.int .i64 0,.int .i64 0,.int .i64 0,.int .i64 0,.int .i64 0,.int .i64 0,.int .i64 0,.int .i64 0,.int .i64 0,.int .i64 0,.int .i64 0,.int .i64 0,.int .i64 0,.int .i64 0,.int .i64 0,.int .i64 0,.int .i64 0,.int .i64 0,.int .i64 0,.int .i64 0,.int .i64 0,.int .i64 0,.int .i64 0,.int .i64 0,.int .i64 0,.int .i64 0,.int .i64 0,.int .i64 0,.int .i64 0,.int .i64 0,.int .i64 0,.int .i64 0,.int .i64 0,.int .i64 0,.int .i64 0]:Array Value) = Array.replicate 64 (.int .i64 0):=rfl
 rw [e,Array.getElem?_replicate,if_pos (by omega)]
 rfl
theorem FarAt.set {w:World} {g:Nat} {f:Nat→Nat→Nat} (h:FarAt w g f) {a b:Nat} (ha:a < 8) (hb:b < 8) (x:Nat):FarAt (w.setCell ⟨g,a * 8 + b,none⟩ (.int .i64 (x:Int))) g (updF f a b x):=by
 obtain ⟨cs,h1,h2⟩:=h
 exact ⟨_,h1.setCell _ _,h2.set ha hb x⟩
theorem FarAt.frozen {w:World} {g:Nat} {f:Nat→Nat→Nat} (h:FarAt w g f) (i:Nat):w.frozen? ⟨g,i,none⟩ = false:=by
 obtain ⟨cs,h1,h2⟩:=h
 exact h1.frozen i
theorem IntsIn.at {w wr:World} {av:Option Addr} {es:List Int} (h:IntsIn w av es) (k:Keeps [] w wr) {i:Nat} {x:Int} (hx:es[i]? = some x):∃ a,av = some a∧wr.cell? (a.add i) = some (.int .i64 x):=by
 obtain ⟨_,_,a,rfl,h1⟩:=h i x hx
 refine ⟨a,rfl,?_⟩
 have hb:=World.block_lt_of_cell? w _ h1
 rw [← h1]
 simp [World.cell?,k.block _ hb (by simp)]
theorem tdiv_small {x:Int} {k:Nat} (hk:1≤k) (x0:-9223372036854775808≤x) (x1:x≤9223372036854775807):-9223372036854775808≤x.tdiv k∧x.tdiv k≤9223372036854775807:=by
 by_cases h:0≤x
 ·rw [Int.tdiv_eq_ediv_of_nonneg h]
  have h1:=Int.ediv_nonneg h (show (0:Int)≤k by omega)
  have h2:=Int.ediv_le_self (k:Int) h
  omega
 ·obtain ⟨y,rfl⟩:∃ y:Int,x = -y:=⟨-x,by omega⟩
  rw [Int.neg_tdiv,Int.tdiv_eq_ediv_of_nonneg (by omega)]
  have h1:=Int.ediv_nonneg (show 0≤y by omega) (show (0:Int)≤k by omega)
  have h2:=Int.ediv_le_self (k:Int) (show 0≤y by omega)
  omega
theorem FarAt.setK {w wr:World} {g:Nat} {f:Nat→Nat→Nat} (h:FarAt wr g f) (k:Keeps [] w wr) (hg:w.heap.size≤g) {a b:Nat} (ha:a < 8) (hb:b < 8) (x:Nat):FarAt (wr.setCell ⟨g,a * 8 + b,none⟩ (.int .i64 (x:Int))) g (updF f a b x)∧Keeps [] w (wr.setCell ⟨g,a * 8 + b,none⟩ (.int .i64 (x:Int))):=
 ⟨h.set ha hb x,k.trans_new (Keeps.setCell _ _ _) (fun i hi=>.inr (by simp at hi;omega))⟩
end
end Go.Proofs.YtgjomknpjigkhaaGreatDoor
