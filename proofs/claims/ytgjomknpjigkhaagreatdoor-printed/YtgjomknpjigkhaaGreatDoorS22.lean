import Derived.Test.YtgjomknpjigkhaaGreatDoorS21
namespace Go.Proofs.YtgjomknpjigkhaaGreatDoor
set_option maxRecDepth 100000
set_option maxHeartbeats 4000000
section
open Go.RowKit
def layOf (rs:List RelX) (i:Nat):Nat:=(rs[i]?.map (·.layer)).getD 0
noncomputable def leaveRk (rs:List RelX) (Fs:Nat→List Nat→Prop) (rks:Nat→List Nat→Option Nat) (lay j:Nat):Nat→List Nat→Option Nat:=fun i=>if i<j∧layOf rs i=lay then addRk (fun _=>none) (Fs i) 0 else rks i
theorem leaveRk_skip {rs:List RelX} {Fs:Nat→List Nat→Prop} {rks:Nat→List Nat→Option Nat} {lay j:Nat} (h:layOf rs j≠lay):leaveRk rs Fs rks lay (j+1)=leaveRk rs Fs rks lay j:=by
 funext i
 unfold leaveRk
 by_cases e:i=j
 ·subst e;rw [if_neg (by omega),if_neg (by omega)]
 ·have:(i<j+1∧layOf rs i=lay)↔(i<j∧layOf rs i=lay):=by omega
  simp only [this]
theorem leaveRk_take {rs:List RelX} {Fs:Nat→List Nat→Prop} {rks:Nat→List Nat→Option Nat} {lay j:Nat} (h:layOf rs j=lay):leaveRk rs Fs rks lay (j+1)=upR (leaveRk rs Fs rks lay j) j (addRk (fun _=>none) (Fs j) 0):=by
 funext i
 unfold leaveRk upR
 by_cases e:i=j
 ·subst e;rw [if_pos ⟨by omega,h⟩,if_pos rfl]
 ·have:(i<j+1∧layOf rs i=lay)↔(i<j∧layOf rs i=lay):=by omega
  simp only [this,e,if_false]
theorem RelS.none {S:ST} {r:RelX} {Fa:List Nat→Prop} {rk:List Nat→Option Nat} (h:RelS S r Fa rk):RelS S { r with tu:=0,L:=[] } Fa (fun _=>none):=⟨h.fa,⟨ok_zero S,fun σ=>by simp [den_zero]⟩,fun l _=>rfl⟩
theorem leave_calls {w:World} {bb gr cr:Nat} {B:SB} {S:ST} {rs:List RelX} {x0 x1 x3:Value} (h:Bse w bb B S gr cr rs x0 x1 x3) {Fs:Nat→List Nat→Prop} {rks:Nat→List Nat→Option Nat} (ha:AllS S rs Fs rks) (lay:Nat) (hl:S.next+24570<lim) :
  Calls Tryz.prog 215 #[.pointer (some ⟨bb,0,none⟩),.int .i64 (lay:Int)] w fun e w'=>e=.returned (.tuple #[])∧∃ rs' S',Bse w' bb B S' gr cr rs' x0 x1 x3∧LikeRs rs rs'∧Keeps (ftp B gr rs) w w'∧Ext S S'∧S'.next≤S.next+24570∧AllS S' rs' Fs (leaveRk rs Fs rks lay rs.length):=by
 have c2:=h.cells.cell 2
 simp at c2
 have h6:=h.few
 have Hl:=hide hl
 clear hl
 go_enter Tryz.func215,Tryz.ntmps215
 go_wp2_with fail
 clear c2
 go_loopw [11] (fun y wr=>∃ (j:Nat) (rs':List RelX) (S':ST),y=.int .i64 j∧j≤rs.length∧Bse wr bb B S' gr cr rs' x0 x1 x3∧LikeRs rs rs'∧Keeps (ftp B gr rs) w wr∧Ext S S'∧S'.next≤S.next+4095 * j∧AllS S' rs' Fs (leaveRk rs Fs rks lay j)) (fun y _=>((rs.length:Int) - intOf y).toNat)
 case atStart=>exact ⟨0,rs,S,rfl,by omega,h,LikeRs.refl rs,Keeps.refl _ _,Ext.refl S,by omega,fun i r hi=>by
  have e:leaveRk rs Fs rks lay 0=rks:=by funext i;unfold leaveRk;rw [if_neg (by omega)]
  rw [e];exact ha i r hi⟩
 case round=>
  obtain ⟨j,rs',S',rfl,hj,hb,hlk,hk,hx,hn,hs⟩:=hrel
  have Hn:=hide hn
  clear hn
  by_cases hjl:j<rs.length
  ·have hjI:(j:Int)<rs.length:=by omega
   obtain ⟨r0,hr0⟩:∃ r,rs[j]?=some r:=⟨_,List.getElem?_eq_getElem hjl⟩
   obtain ⟨r,hr,hrl⟩:=hlk.2 j r0 hr0
   obtain ⟨cs,hc,hcs⟩:=hb.rel
   have c:=hcs j r hr
   have hmem:=List.mem_of_getElem? hr
   have g2:=hb.cells.cell 2
   simp at g2
   rw [hlk.1] at g2
   have q1:wr.cell? ⟨gr,j * 5+1,none⟩=some (.int .i64 (r.layer:Int)):=by rw [hc.cell];exact c.c1
   have q3:wr.cell? ⟨gr,j * 5+3,none⟩=some (.int .i64 r.tu):=by rw [hc.cell];exact c.c3
   have f3:=hc.frozen (j * 5+3)
   have hlo:layOf rs j=r.layer:=by simp [layOf,hr0,hrl.layer]
   by_cases hly:r.layer=lay
   ·have hlI:(r.layer:Int)=lay:=by omega
    have kS:=Keeps.setCell wr ⟨gr,j * 5+3,none⟩ (.int .i64 0)
    have hcS:=hc.setCell (j * 5+3) (.int .i64 0)
    have hmS:=(hb.maps r hmem).kept kS (by simpa using Ne.symm (hb.grrm r hmem))
    obtain ⟨o,hrun,hm⟩:=run_clear (P:=Tryz.prog) Tryz.underlying146 hmS 0
    have hrun':=fun (ty:TypeId)=>(show (Builtin.clear_ #[146] ty #[.map (some r.rm)]).run Tryz.prog _=_ from hrun)
    have kC:=Keeps.blk (wr.setCell ⟨gr,j * 5+3,none⟩ (.int .i64 0)) r.rm o
    have hcC:=hcS.keeps kC (by simpa using hb.grrm r hmem)
    have kk:Keeps (gr :: r.rm :: B.own) wr (blk (wr.setCell ⟨gr,j * 5+3,none⟩ (.int .i64 0)) r.rm o):=(kS.mono (by simp)).trans (kC.mono (by simp))
    have hEC:=(hb.eng.keeps kS (fun q hq hm=>hb.grB (by simp only [List.mem_singleton] at hm;rw [←hm];exact hq))).keeps kC (fun q hq hm=>hb.rmB r hmem (by simp only [List.mem_singleton] at hm;rw [←hm];exact hq))
    have hbC:=hb.turn hr (r':={ r with tu:=0,L:=[] }) rfl rfl kk hEC hcC (hcs.set ((c.setTu 0).mapL []) (fun j' q hj' hq=>hq.other (by omega))) hm
    have hl2:j<rs'.length:=(List.getElem?_eq_some_iff.1 hr).1
    have hiC:(rs'.set j { r with tu:=0,L:=[] })[j]?=some { r with tu:=0,L:=[] }:=by rw [List.getElem?_set,if_pos rfl,if_pos hl2]
    have hadd:=hide (bse_add hbC hiC (hs j r hr).none (x:=r.fa) (X:=Fs j) (hs j r hr).fa 0 (by have:=Hl.out;have:=Hn.out;omega))
    have q4:(wr.setCell ⟨gr,j * 5+3,none⟩ (.int .i64 0)).cell? ⟨gr,j * 5+4,none⟩=some (.map (some r.rm)):=by rw [hcS.cell,Array.getElem?_setIfInBounds,if_neg (by omega)];exact c.c4
    have q2:(blk (wr.setCell ⟨gr,j * 5+3,none⟩ (.int .i64 0)) r.rm o).cell? ⟨gr,j * 5+2,none⟩=some (.int .i64 r.fa):=by rw [hcC.cell,Array.getElem?_setIfInBounds,if_neg (by omega)];exact c.c2
    have Hkk:=hide kk
    have Hlo:Hid (layOf rs j=lay):=hlo.trans hly
    have Hft:=hide (ftp_set (B:=B) (gr:=gr) hr (r':={ r with tu:=0,L:=[] }) rfl)
    clear hrun hlo hly kk kS kC hmS hbC hEC hcS hcC hm hiC
    go_wp2_with fail
    refine hadd.out.mono ?_
    rintro e w5 ⟨rfl,r',S5,hb5,k5,x5,n5,lk5,hs5⟩
    rw [Hft.out] at k5
    have k6:Keeps (ftp B gr rs) wr w5:=by have:=(ftp_turn hr Hkk.out).trans k5;rw [hlk.ftp] at this;exact this
    have e5:(rs'.set j { r with tu:=0,L:=[] }).set j r' = rs'.set j r':=by rw [List.set_set]
    rw [e5] at hb5
    have lk6:LikeR r r':=⟨lk5.sa,lk5.n,lk5.cc,lk5.layer,lk5.fa,lk5.rm⟩
    have Hn5:=hide n5
    clear n5 e5 hadd
    go_wp2_with fail
    go_roundw
    ·exact ⟨j+1,rs'.set j r',S5,by simp,by omega,hb5,hlk.trans (LikeRs.set hr lk6),hk.trans k6,hx.trans x5,by have:=Hn.out;have:=Hn5.out;push_cast;omega,by rw [leaveRk_take Hlo.out];exact (hs.ext x5 hb.eng.wf hb5.eng.wf).set hs5⟩
    ·simp only [intOf];omega
   ·have hlI:((r.layer:Int) == (lay:Int))=false:=by simp;omega
    have Hlo:Hid (layOf rs j≠lay):=by rw [hlo];exact hly
    clear hlo hly
    go_wp2_with fail
    go_roundw
    ·exact ⟨j+1,rs',S',by simp,by omega,hb,hlk,hk,hx,by have:=Hn.out;push_cast;omega,by rw [leaveRk_skip Hlo.out];exact hs⟩
    ·simp only [intOf];omega
  ·have hjI:¬ (j:Int)<rs.length:=by omega
   have e:j=rs.length:=by omega
   subst e
   go_wp2_with fail
   go_end0
   exact ⟨rfl,rs',S',hb,hlk,hk,hx,by have:=Hn.out;omega,hs⟩
end
section
open Go.RowKit
def FndS (S:ST) (rs:List RelX) (fs:List Int) (Xs:Nat→List Nat→Prop):Prop:=fs.length=rs.length∧∀ (i:Nat) (r:RelX) (f:Int),rs[i]?=some r→fs[i]?=some f→Rep S f r.n (Xs i)
theorem FndS.ext {S S':ST} {rs:List RelX} {fs:List Int} {Xs:Nat→List Nat→Prop} (h:FndS S rs fs Xs) (x:Ext S S') (hw:WF S) (hw':WF S'):FndS S' rs fs Xs:=⟨h.1,fun i r f h1 h2=>(h.2 i r f h1 h2).ext x hw hw'⟩
theorem FndS.like {S:ST} {rs rs':List RelX} {fs:List Int} {Xs:Nat→List Nat→Prop} (h:FndS S rs fs Xs) (k:LikeRs rs rs'):FndS S rs' fs Xs:=⟨by rw [h.1,k.1],fun i r f h1 h2=>by
 have hl:i<rs.length:=by rw [←k.1];exact (List.getElem?_eq_some_iff.1 h1).1
 obtain ⟨r',e1,e2⟩:=k.2 i _ (List.getElem?_eq_getElem hl)
 rw [h1] at e1
 cases e1
 rw [e2.n]
 exact h.2 i _ f (List.getElem?_eq_getElem hl) h2⟩
noncomputable def freshRk (rks:Nat→List Nat→Option Nat) (Xs:Nat→List Nat→Prop) (rank j:Nat):Nat→List Nat→Option Nat:=fun i=>if i<j then addRk (rks i) (Xs i) rank else rks i
theorem freshRk_step {rks:Nat→List Nat→Option Nat} {Xs:Nat→List Nat→Prop} {rank j:Nat}:freshRk rks Xs rank (j+1)=upR (freshRk rks Xs rank j) j (addRk (rks j) (Xs j) rank):=by
 funext i
 unfold freshRk upR
 by_cases e:i=j
 ·subst e;rw [if_pos (by omega),if_pos rfl]
 ·have:i<j+1↔i<j:=by omega
  simp only [this,e,if_false]
def gB (fs:List Int) (j:Nat):Bool:=(fs.take j).any (fun f=>f != 0)
theorem gB_step {fs:List Int} {j:Nat} {f:Int} (h:fs[j]?=some f):gB fs (j+1)=(gB fs j || f != 0):=by
 unfold gB
 rw [List.take_add_one,h]
 simp
theorem fresh_calls {w:World} {bb gr cr:Nat} {B:SB} {S:ST} {rs:List RelX} {x0 x1 x3:Value} (h:Bse w bb B S gr cr rs x0 x1 x3) {Fs:Nat→List Nat→Prop} {rks:Nat→List Nat→Option Nat} (ha:AllS S rs Fs rks) {gf cf:Nat} {fs:List Int} (hrow:RowIs w gf fs) (hgf:gf∉ftp B gr rs) {Xs:Nat→List Nat→Prop} (hf:FndS S rs fs Xs) (rank:Nat) (hl:S.next+24570<lim) :
  Calls Tryz.prog 218 #[.pointer (some ⟨bb,0,none⟩),.slice (some ⟨gf,0,none⟩) fs.length cf,.int .i64 (rank:Int)] w fun e w'=>e=.returned (.bool (gB fs fs.length))∧∃ rs' S',Bse w' bb B S' gr cr rs' x0 x1 x3∧LikeRs rs rs'∧Keeps (ftp B gr rs) w w'∧Ext S S'∧S'.next≤S.next+24570∧AllS S' rs' Fs (freshRk rks Xs rank rs.length):=by
 have h6:=h.few
 have hlen:=hf.1
 have Hl:=hide hl
 have Hlen:=hide hlen
 have hf6:fs.length≤6:=by omega
 clear hl hlen
 go_enter Tryz.func218,Tryz.ntmps218
 go_wp2_with fail
 go_loopw [7,12] (fun x y wr=>∃ (j:Nat) (rs':List RelX) (S':ST),x=.bool (gB fs j)∧y=.int .i64 j∧j≤fs.length∧Bse wr bb B S' gr cr rs' x0 x1 x3∧LikeRs rs rs'∧Keeps (ftp B gr rs) w wr∧Ext S S'∧S'.next≤S.next+4095 * j∧AllS S' rs' Fs (freshRk rks Xs rank j)) (fun _ y _=>((fs.length:Int) - intOf y).toNat)
 case atStart=>exact ⟨0,rs,S,rfl,rfl,by omega,h,LikeRs.refl rs,Keeps.refl _ _,Ext.refl S,by omega,fun i r hi=>by
  have e:freshRk rks Xs rank 0=rks:=by funext i;unfold freshRk;rw [if_neg (by omega)]
  rw [e];exact ha i r hi⟩
 case round=>
  obtain ⟨j,rs',S',rfl,rfl,hj,hb,hlk,hk,hx,hn,hs⟩:=hrel
  have Hn:=hide hn
  clear hn
  by_cases hjl:j<fs.length
  ·have hjI:(j:Int)<fs.length:=by omega
   have hjr:j<rs'.length:=by rw [hlk.1,←Hlen.out];exact hjl
   have hjrI:(j:Int)<rs'.length:=by omega
   obtain ⟨f,hff⟩:∃ f,fs[j]?=some f:=⟨_,List.getElem?_eq_getElem hjl⟩
   obtain ⟨r,hr⟩:∃ r,rs'[j]?=some r:=⟨_,List.getElem?_eq_getElem hjr⟩
   have hrw:=hrow.keepsE hk hgf
   have g0:=hrw.cell hff
   have g2:=hb.cells.cell 2
   simp at g2
   have e1:freshRk rks Xs rank j j=rks j:=by unfold freshRk;rw [if_neg (by omega)]
   have hadd:=hide (bse_add hb hr (by have:=hs j r hr;rw [e1] at this;exact this) (x:=f) (X:=Xs j) (((hf.like hlk).2 j r f hr hff).ext hx h.eng.wf hb.eng.wf) rank (by have:=Hl.out;have:=Hn.out;omega))
   have Hst:=hide (gB_step hff)
   have Hr:=hide hr
   have hjr0:j<rs.length:=by rw [←Hlen.out];exact hjl
   clear hff hr e1 hjr
   go_wp2_with fail
   refine hadd.out.mono ?_
   rintro e w5 ⟨rfl,r',S5,hb5,k5,x5,n5,lk5,hs5⟩
   rw [hlk.ftp] at k5
   have Hn5:=hide n5
   clear n5 hadd
   have Hfin:Hid (∃ (j_1:Nat) (rs':List RelX) (S':ST),Value.bool (gB fs (j+1))=.bool (gB fs j_1)∧Value.int .i64 ((j:Int)+1)=.int .i64 j_1∧j_1≤fs.length∧Bse w5 bb B S' gr cr rs' x0 x1 x3∧LikeRs rs rs'∧Keeps (ftp B gr rs) w w5∧Ext S S'∧S'.next≤S.next+4095 * j_1∧AllS S' rs' Fs (freshRk rks Xs rank j_1)):=
    ⟨j+1,rs'.set j r',S5,rfl,by simp,by omega,hb5,hlk.trans (LikeRs.set Hr.out lk5),hk.trans k5,hx.trans x5,by have:=Hn.out;have:=Hn5.out;push_cast;omega,by rw [freshRk_step];exact (hs.ext x5 hb.eng.wf hb5.eng.wf).set hs5⟩
   rw [Hst.out] at Hfin
   cases hg:gB fs j
   all_goals
    rw [hg] at Hfin
    go_wp2_with fail
    refine ⟨?_,by simp only [intOf];omega⟩
    have:=Hfin.out
    simpa using this
  ·have hjI:¬ (j:Int)<fs.length:=by omega
   have e:j=fs.length:=by omega
   subst e
   go_wp2_with fail
   go_ret
   exact ⟨rfl,rs',S',hb,hlk,hk,hx,by have:=Hn.out;omega,by rw [←Hlen.out];exact hs⟩
def outX (Xs:Nat→List Nat→Prop) (rks:Nat→List Nat→Option Nat) (j:Nat):Nat→List Nat→Prop:=fun i l=>Xs i l∧(i<j→(rks i l).isSome≠true)
theorem without_calls {w:World} {bb gr cr:Nat} {B:SB} {S:ST} {rs:List RelX} {x0 x1 x3:Value} (h:Bse w bb B S gr cr rs x0 x1 x3) {Fs:Nat→List Nat→Prop} {rks:Nat→List Nat→Option Nat} (ha:AllS S rs Fs rks) {gf cf:Nat} {fs:List Int} (hrow:RowIs w gf fs) (hgf:gf∉ftp B gr rs) (hgb:gf≠bb) {Xs:Nat→List Nat→Prop} (hf:FndS S rs fs Xs) (hl:S.next+24570<lim) :
  Calls Tryz.prog 265 #[.pointer (some ⟨bb,0,none⟩),.slice (some ⟨gf,0,none⟩) fs.length cf] w fun e w'=>e=.returned (.slice (some ⟨gf,0,none⟩) fs.length cf)∧∃ fs' S',EngS w' B S'∧RowIs w' gf fs'∧Keeps (gf :: B.own) w w'∧Ext S S'∧S'.next≤S.next+24570∧FndS S' rs fs' (outX Xs rks rs.length):=by
 have h6:=h.few
 have hlen:=hf.1
 have Hl:=hide hl
 have Hlen:=hide hlen
 have hf6:fs.length≤6:=by omega
 have hgB:gf∉B.own:=fun q=>hgf (by simp [ftp,q])
 have hgr:gf≠gr:=fun q=>hgf (by simp [ftp,q])
 obtain ⟨cs,hc,hcs⟩:=h.rel
 clear hl hlen
 go_enter Tryz.func265,Tryz.ntmps265
 go_wp2_with fail
 go_loopw [9] (fun y wr=>∃ (j:Nat) (fs':List Int) (S':ST),y=.int .i64 j∧j≤fs.length∧EngS wr B S'∧RowIs wr gf fs'∧Keeps (gf :: B.own) w wr∧Ext S S'∧S'.next≤S.next+4095 * j∧FndS S' rs fs' (outX Xs rks j)) (fun y _=>((fs.length:Int) - intOf y).toNat)
 case atStart=>exact ⟨0,fs,S,rfl,by omega,h.eng,hrow,Keeps.refl _ _,Ext.refl S,by omega,hf.1,fun i r f h1 h2=>(hf.2 i r f h1 h2).iff fun l _=>⟨fun q=>⟨q,fun q=>by omega⟩,fun q=>q.1⟩⟩
 case round=>
  obtain ⟨j,fs',S',rfl,hj,hE,hr,hk,hx,hn,hs⟩:=hrel
  have Hn:=hide hn
  clear hn
  have hkb:bb∉gf :: B.own:=not_cons (Ne.symm hgb) h.bbB
  have hkg:gr∉gf :: B.own:=not_cons (Ne.symm hgr) h.grB
  by_cases hjl:j<fs.length
  ·have hjI:(j:Int)<fs.length:=by omega
   have hjf:j<fs'.length:=by rw [hs.1,←Hlen.out];exact hjl
   have hjr:j<rs.length:=by rw [←Hlen.out];exact hjl
   have hjrI:(j:Int)<rs.length:=by omega
   obtain ⟨f,hff⟩:∃ f,fs'[j]?=some f:=⟨_,List.getElem?_eq_getElem hjf⟩
   obtain ⟨r,hrr⟩:∃ r,rs[j]?=some r:=⟨_,List.getElem?_eq_getElem hjr⟩
   have c:=hcs j r hrr
   have hcr:=hc.keeps hk hkg
   have hcb:=h.cells.keeps hk hkb
   have g0:=hr.cell hff
   have g2:=hcb.cell 2
   have g4:=hcb.cell 4
   simp at g2 g4
   have g3:wr.cell? ⟨gr,j * 5+3,none⟩=some (.int .i64 r.tu):=by rw [hcr.cell];exact c.c3
   have hRf:=hs.2 j r f hrr hff
   have hRt:=(ha j r hrr).tu.ext hx h.eng.wf hE.wf
   have hd:=hide (fun (W:World) (k:Keeps [] wr W)=>diff_E (hE.keeps0 k) (f:=f) (g:=r.tu) ⟨hRf.1,hRf.2⟩ ⟨hRt.1,hRt.2⟩ (by have:=Hl.out;have:=Hn.out;omega))
   have h7:=hide (fun (W7:World) (k:Keeps B.own wr.drew W7) (v:Value)=>
    let hb7:=(hcb.keeps (Keeps.drew [] wr) (by simp)).keeps k h.bbB
    let hg7:=(hcr.keeps (Keeps.drew [] wr) (by simp)).keeps k h.grB
    let hr7:=(hr.keepsE (Keeps.drew [] wr) (by simp)).keepsE k hgB
    let kS:=Keeps.setCell W7 ⟨gf,j,none⟩ v
    And.intro (show W7.cell? ⟨bb,2,none⟩=some (.slice (some ⟨gr,0,none⟩) rs.length cr) from by have:=hb7.cell 2;simpa using this) <| And.intro (show W7.cell? ⟨bb,4,none⟩=some (.pointer (some ⟨B.b,0,none⟩)) from by have:=hb7.cell 4;simpa using this) <| And.intro (show W7.cell? ⟨gr,j * 5+3,none⟩=some (.int .i64 r.tu) from by rw [hg7.cell];exact c.c3) <|
    And.intro (hr7.cell hff) <| And.intro (hr7.frozenE j) <| And.intro (show (W7.setCell ⟨gf,j,none⟩ v).cell? ⟨bb,2,none⟩=some (.slice (some ⟨gr,0,none⟩) rs.length cr) from by have:=(hb7.keeps kS (by simpa using Ne.symm hgb)).cell 2;simpa using this) <| And.intro (show (W7.setCell ⟨gf,j,none⟩ v).cell? ⟨bb,4,none⟩=some (.pointer (some ⟨B.b,0,none⟩)) from by have:=(hb7.keeps kS (by simpa using Ne.symm hgb)).cell 4;simpa using this) (show (W7.setCell ⟨gf,j,none⟩ v).cell? ⟨gr,j * 5+3,none⟩=some (.int .i64 r.tu) from by rw [(hg7.keeps kS (by simpa using Ne.symm hgr)).cell];exact c.c3))
   have Hff:=hide hff
   have Hrr:=hide hrr
   clear hff hrr hcr hcb hRf hRt c
   go_wp2_with fail
   go_region_held3 (fun w'=>w'.cell? ⟨bb,2,none⟩=some (.slice (some ⟨gr,0,none⟩) rs.length cr)∧w'.cell? ⟨bb,4,none⟩=some (.pointer (some ⟨B.b,0,none⟩))∧w'.cell? ⟨gr,j * 5+3,none⟩=some (.int .i64 r.tu)) (first | exact ⟨g2,g4,g3⟩ | exact ⟨a0,a1,a2⟩ | exact ⟨(h7.out _ k5 _).2.2.2.2.2.1,(h7.out _ k5 _).2.2.2.2.2.2.1,(h7.out _ k5 _).2.2.2.2.2.2.2⟩)
    (first
    | (go_at_call 88
       refine (hd.out _ (Keeps.drew [] _)).mono ?_
       rintro e W5 ⟨t,S5,rfl,hE5,k5,x5,n5,hr5⟩
       obtain ⟨a0,a1,a2,a3,a4,_⟩:=h7.out W5 k5 undef))
   all_goals
    have hr6:=(((hr.keepsE (Keeps.drew [] wr) (by simp)).keepsE k5 hgB).setE j t)
    have kS:=Keeps.setCell W5 ⟨gf,j,none⟩ (.int .i64 t)
    have hE6:=hE5.keeps kS (fun q hq hm=>hgB (by simp only [List.mem_singleton] at hm;rw [←hm];exact hq))
    have Hn5:=hide n5
    clear h7 hd n5 g0 g2 g3 g4 a0 a1 a2 a3 a4
    go_wp2_with fail
    go_roundw
    ·refine ⟨j+1,fs'.set j t,S5,by simp,by omega,hE6,hr6,((hk.trans ((Keeps.drew [] wr).mono (by simp))).trans (k5.mono (fun q hq=>List.mem_cons_of_mem _ hq))).trans (kS.mono (by simp)),hx.trans x5,by have:=Hn.out;have:=Hn5.out;push_cast;omega,by rw [List.length_set];exact hs.1,fun i q y hq hy=>?_⟩
     rw [List.getElem?_set] at hy
     by_cases e:j=i
     ·subst e
      rw [if_pos rfl,if_pos hjf] at hy
      cases hy
      rw [Hrr.out] at hq
      cases hq
      refine ⟨hr5.1,fun σ=>?_⟩
      rw [hr5.2]
      unfold outX
      exact ⟨fun hh=>⟨hh.1.1,fun _=>hh.2⟩,fun hh=>⟨⟨hh.1,fun hlt=>by omega⟩,hh.2 (by omega)⟩⟩
     ·rw [if_neg e] at hy
      refine ((hs.ext x5 hE.wf hE5.wf).2 i q y hq hy).iff fun l _=>?_
      unfold outX
      have:i<j+1↔i<j:=by omega
      rw [this]
    ·simp only [intOf];omega
  ·have hjI:¬ (j:Int)<fs.length:=by omega
   have e:j=fs.length:=by omega
   subst e
   go_wp2_with fail
   go_ret
   exact ⟨rfl,fs',S',hE,hr,hk,hx,by have:=Hn.out;omega,by rw [←Hlen.out];exact hs⟩
end
section
open Go.RowKit
def HldS (S:ST) (hs:List Int) (Hs:List (List Nat→Prop)):Prop:=hs.length=Hs.length∧∀ (i:Nat) (h:Int) (H:List Nat→Prop),hs[i]?=some h→Hs[i]?=some H→Rep S h 4 H
theorem HldS.ext {S S':ST} {hs:List Int} {Hs:List (List Nat→Prop)} (h:HldS S hs Hs) (x:Ext S S') (hw:WF S) (hw':WF S'):HldS S' hs Hs:=⟨h.1,fun i a b h1 h2=>(h.2 i a b h1 h2).ext x hw hw'⟩
def allH (Hs:List (List Nat→Prop)) (j:Nat) (ν:List Nat):Prop:=∀ (i:Nat) (H:List Nat→Prop),i<j→Hs[i]?=some H→H ν
theorem allH_step {Hs:List (List Nat→Prop)} {j:Nat} {H:List Nat→Prop} (h:Hs[j]?=some H) (ν:List Nat):allH Hs (j+1) ν↔allH Hs j ν∧H ν:=by
 constructor
 ·exact fun hh=>⟨fun i G hi hG=>hh i G (by omega) hG,hh j H (by omega) h⟩
 ·rintro ⟨h1,h2⟩ i G hi hG
  by_cases e:i<j
  ·exact h1 i G e hG
  ·have:i=j:=by omega
   subst this
   rw [h] at hG;cases hG;exact h2
def brings (ts:List TermM) (Φ:List Nat→Prop) (l:List Nat):Prop:=∃ ν,ν∈alls 4∧Φ ν∧ts.map (tvR ν)=l
def upX (Xs:Nat→List Nat→Prop) (i:Nat) (X:List Nat→Prop):Nat→List Nat→Prop:=fun j l=>if j=i then Xs i l∨X l else Xs j l
def ruV (ρ:Nat) (ta:Option Addr) (tn tc:Nat) (la:Option Addr) (ln lc:Nat) (ha:Option Addr) (hn hc:Nat):Value:=.agg #[.int .i64 (ρ:Int),.slice ta tn tc,.slice la ln lc,.slice ha hn hc]
theorem find_calls {w:World} {bb gr cr:Nat} {B:SB} {S:ST} {rs:List RelX} {x0 x1 x3:Value} (h:Bse w bb B S gr cr rs x0 x1 x3) {gf cf:Nat} {fs:List Int} (hrow:RowIs w gf fs) (hgf:gf∉B.own) (hgb:gf≠bb) {Xs:Nat→List Nat→Prop} (hf:FndS S rs fs Xs) {ρ gt tc ln lc gh ch:Nat} {la:Option Addr} {ts:List TermM} (htr:TmRow w gt ts) (hgt:gt∉gf :: B.own) (htm:∀ t∈ts,TmOk t) {r:RelX} (hr:rs[ρ]?=some r) (htl:ts.length=r.n) {hs:List Int} {Hs:List (List Nat→Prop)} (hh:RowIs w gh hs) (hgh:gh∉gf :: B.own) (hH:HldS S hs Hs) (h4:hs.length≤4) {f:Int} {Φ:List Nat→Prop} (hΦ:Rep S f 4 Φ) (hl:S.next+33900000<lim) :
  Calls Tryz.prog 264 #[.pointer (some ⟨bb,0,none⟩),.slice (some ⟨gf,0,none⟩) fs.length cf,ruV ρ (some ⟨gt,0,none⟩) ts.length tc la ln lc (some ⟨gh,0,none⟩) hs.length ch,.int .i64 f] w fun e w'=>e=.returned (.tuple #[])∧∃ fs' S',EngS w' B S'∧RowIs w' gf fs'∧Keeps (gf :: B.own) w w'∧Ext S S'∧S'.next≤S.next+33800000∧FndS S' rs fs' (upX Xs ρ (brings ts (fun ν=>Φ ν∧allH Hs hs.length ν))):=by
 have h6:=h.few
 have hρ:ρ<rs.length:=(List.getElem?_eq_some_iff.1 hr).1
 have hρf:ρ<fs.length:=by rw [hf.1];exact hρ
 have hρI:(ρ:Int)<fs.length:=by omega
 have hn3:=h.cols r (List.mem_of_getElem? hr)
 have hgtB:gt∉B.own:=fun q=>hgt (List.mem_cons_of_mem _ q)
 have hghB:gh∉B.own:=fun q=>hgh (List.mem_cons_of_mem _ q)
 have kA:=Keeps.alloc [] w (.cells #[.int .i64 (ρ:Int),.slice (some ⟨gt,0,none⟩) ts.length tc,.slice la ln lc,.slice (some ⟨gh,0,none⟩) hs.length ch] 295)
 have hA:=CellsAt.new w #[.int .i64 (ρ:Int),.slice (some ⟨gt,0,none⟩) ts.length tc,.slice la ln lc,.slice (some ⟨gh,0,none⟩) hs.length ch] 295
 have Hl:=hide hl
 have Hfr:=hide (fun j (hj:w.heap.size≤j)=>h.eng.sat.fresh hj)
 have Htl:=hide htl
 unfold ruV
 have hbA:=h.keeps0 kA
 have hrA:=hrow.keepsE kA (by simp)
 have htA:=htr.keeps kA (by simp)
 have hhA:=hh.keepsE kA (by simp)
 have hgl:=hrow.lt
 generalize hWA:w.alloc (.cells #[.int .i64 (ρ:Int),.slice (some ⟨gt,0,none⟩) ts.length tc,.slice la ln lc,.slice (some ⟨gh,0,none⟩) hs.length ch] 295)=WA at *
 have a0:=hA.cell 0
 have a1:=hA.cell 1
 have a3:=hA.cell 3
 simp at a0 a1 a3
 clear hl htl
 go_enter Tryz.func264,Tryz.ntmps264
 go_wp2_with fail
 clear hWA a0 a1 a3
 go_loopw [3,14] (fun x y wr=>∃ (j:Nat) (q:Int) (S':ST),x=.int .i64 q∧y=.int .i64 j∧j≤hs.length∧EngS wr B S'∧Keeps B.own WA wr∧Ext S S'∧S'.next≤S.next+4095 * j∧Rep S' q 4 (fun ν=>Φ ν∧allH Hs j ν)) (fun _ y _=>((hs.length:Int) - intOf y).toNat)
 case atStart=>exact ⟨0,f,S,rfl,rfl,by omega,hbA.eng,Keeps.refl _ _,Ext.refl S,by omega,hΦ.iff fun ν _=>⟨fun q=>⟨q,fun i H hi=>by omega⟩,fun q=>q.1⟩⟩
 case round=>
  obtain ⟨j,q,S',rfl,rfl,hj,hE,hk,hx,hn,hq⟩:=hrel
  have Hn:=hide hn
  clear hn
  have hbr:=hbA.store hk hE
  have g4:=hbr.bs.cell
  by_cases hjl:j<hs.length
  ·have hjI:(j:Int)<hs.length:=by omega
   have hhr:=hhA.keepsE hk hghB
   obtain ⟨y,hy⟩:∃ y,hs[j]?=some y:=⟨_,List.getElem?_eq_getElem hjl⟩
   obtain ⟨H,hHj⟩:∃ H,Hs[j]?=some H:=⟨_,List.getElem?_eq_getElem (by rw [←hH.1];exact hjl)⟩
   have g0:=hhr.cell hy
   have hy4:=(hH.2 j y H hy hHj).ext hx h.eng.wf hE.wf
   have hand:=hide (and_E hE (f:=q) (g:=y) ⟨hq.1,hq.2⟩ ⟨hy4.1,hy4.2⟩ (by have:=Hl.out;have:=Hn.out;omega))
   have Hst:=hide (allH_step hHj)
   clear hy hHj hy4
   go_wp2_with fail
   refine hand.out.mono ?_
   rintro e W5 ⟨t,S5,rfl,hE5,k5,x5,n5,hr5⟩
   have Hn5:=hide n5
   clear n5 hand
   go_wp2_with fail
   go_roundw
   ·exact ⟨j+1,t,S5,rfl,by simp,by omega,hE5,hk.trans k5,hx.trans x5,by have:=Hn.out;have:=Hn5.out;push_cast;omega,hr5.1,fun σ=>by rw [hr5.2];exact ⟨fun hh=>⟨hh.1.1,(Hst.out _).2 ⟨hh.1.2,hh.2⟩⟩,fun hh=>⟨⟨hh.1,((Hst.out _).1 hh.2).1⟩,((Hst.out _).1 hh.2).2⟩⟩⟩
   ·simp only [intOf];omega
  ·have hjI:¬ (j:Int)<hs.length:=by omega
   have e:j=hs.length:=by omega
   subst e
   have hAr:=hA.keeps hk (Hfr.out _ (Nat.le_refl _))
   have htr':=htA.keeps hk hgtB
   have hrr:=hrA.keepsE hk hgf
   obtain ⟨y,hy⟩:∃ y,fs[ρ]?=some y:=⟨_,List.getElem?_eq_getElem hρf⟩
   have a0:=hAr.cell 0
   have a1:=hAr.cell 1
   simp at a0 a1
   have g0:=hrr.cell hy
   have hhd:=hide (fun (W:World) (k:Keeps [] wr W)=>heads_R (c:=tc) (ρ:=(ρ:Int)) (hE.keeps0 k) (hbr.bs.keeps k (by simp)) hgtB (htr'.keeps k (by simp)) htm (by rw [Htl.out];exact hn3) hq (by have:=Hl.out;have:=Hn.out;omega))
   have hyX:=(hf.2 ρ r y hr hy).ext hx h.eng.wf hE.wf
   have hnz:w.heap.size≠gf:=by omega
   have h7:=hide (fun (W7:World) (k:Keeps B.own wr.drew W7) (v:Value)=>
    let hb7:=(hbr.bs.keeps (Keeps.drew [] wr) (by simp)).own k
    let hA7:=(hAr.keeps (Keeps.drew [] wr) (by simp)).keeps k (Hfr.out _ (Nat.le_refl _))
    let hr7:=(hrr.keepsE (Keeps.drew [] wr) (by simp)).keepsE k hgf
    let kS:=Keeps.setCell W7 ⟨gf,ρ,none⟩ v
    And.intro hb7.cell <| And.intro (show W7.cell? ⟨w.heap.size,0,none⟩=some (.int .i64 (ρ:Int)) from by have:=hA7.cell 0;simpa using this) <| And.intro (show W7.cell? ⟨w.heap.size,1,none⟩=some (.slice (some ⟨gt,0,none⟩) ts.length tc) from by have:=hA7.cell 1;simpa using this) <| And.intro (hr7.cell hy) <| And.intro (hr7.frozenE ρ) <|
    And.intro (hb7.keeps kS (by simpa using Ne.symm hgb)).cell <| And.intro (show (W7.setCell ⟨gf,ρ,none⟩ v).cell? ⟨w.heap.size,0,none⟩=some (.int .i64 (ρ:Int)) from by have:=(hA7.keeps kS (by simpa using hnz)).cell 0;simpa using this) (show (W7.setCell ⟨gf,ρ,none⟩ v).cell? ⟨w.heap.size,1,none⟩=some (.slice (some ⟨gt,0,none⟩) ts.length tc) from by have:=(hA7.keeps kS (by simpa using hnz)).cell 1;simpa using this))
   have Hy:=hide hy
   have Hr:=hide hr
   clear hy hr
   go_wp2_with fail
   go_region_law (first
    | (refine step_callA rfl 74 _ _ rfl _ Tryz.func74 (by kernel_rfl) (by kernel_rfl) [.pointer (some ⟨bb,0,none⟩),.int .i64 q,.agg #[.int .i64 (ρ:Int),.slice (some ⟨gt,0,none⟩) ts.length tc]] rfl ?_
       refine (hhd.out _ (Keeps.drew [] _)).mono ?_
       rintro e W5 ⟨t,S5,rfl,hE5,k5,x5,n5,hr5⟩
       obtain ⟨b0,b1,b2,b3,b4,_⟩:=h7.out W5 k5 undef)
    | (refine step_callA rfl 73 _ _ rfl _ Tryz.func73 (by kernel_rfl) (by kernel_rfl) [.pointer (some ⟨B.b,0,none⟩),.int .i64 y,.int .i64 t] rfl ?_
       refine (or_E hE5 (f:=y) (g:=t) (RepB.ext ⟨hyX.1,hyX.2⟩ x5 hE.wf hE5.wf) hr5 (by have:=Hl.out;have:=Hn.out;omega)).mono ?_
       rintro e W6 ⟨t6,S6,rfl,hE6,k6,x6,n6,hr6⟩
       obtain ⟨c0,c1,c2,c3,c4,_⟩:=h7.out W6 (k5.trans k6) undef))
   all_goals
    have kS:=Keeps.setCell W6 ⟨gf,ρ,none⟩ (.int .i64 t6)
    have hrS:=((hrr.keepsE (Keeps.drew [] wr) (by simp)).keepsE (k5.trans k6) hgf).setE ρ t6
    have hES:=hE6.keeps kS (fun z hz hm=>hgf (by simp only [List.mem_singleton] at hm;rw [←hm];exact hz))
    go_wp2_with fail
    go_end0
    refine ⟨rfl,fs.set ρ t6,S6,hES,hrS,((((kA.mono (by simp)).trans (hk.mono (fun z hz=>List.mem_cons_of_mem _ hz))).trans ((Keeps.drew [] wr).mono (by simp))).trans ((k5.trans k6).mono (fun z hz=>List.mem_cons_of_mem _ hz))).trans (kS.mono (by simp)),hx.trans (x5.trans x6),by have:=Hn.out;omega,by rw [List.length_set];exact hf.1,fun i q' z hq' hz=>?_⟩
    rw [List.getElem?_set] at hz
    unfold upX
    by_cases e:ρ=i
    ·subst e
     rw [if_pos rfl,if_pos hρf] at hz
     cases hz
     rw [Hr.out] at hq'
     cases hq'
     refine ⟨hr6.1,fun σ=>?_⟩
     rw [hr6.2]
     simp only [if_true]
     rw [←Htl.out]
     exact Iff.rfl
    ·rw [if_neg e] at hz
     refine (((hf.2 i q' z hq' hz).ext (hx.trans (x5.trans x6)) h.eng.wf hE6.wf)).iff fun l _=>?_
     rw [if_neg (fun q=>e q.symm)]
end
end Go.Proofs.YtgjomknpjigkhaaGreatDoor
