import Derived.Test.YtgjomknpjigkhaaGreatDoorU13
import Derived.Laws.CopyOwn
namespace Go.Proofs.YtgjomknpjigkhaaGreatDoor
open Go.Proofs.Tryz
set_option maxRecDepth 100000
set_option maxHeartbeats 4000000
section
open Go.RowKit
structure RelX where
 sa:Option Addr
 n:Nat
 cc:Nat
 layer:Nat
 fa:Int
 tu:Int
 rm:Nat
 L:List (Int×Int)
structure RelC (cs:Array Value) (o:Nat) (r:RelX):Prop where
 c0:cs[o]?=some (.slice r.sa r.n r.cc)
 c1:cs[o+1]?=some (.int .i64 (r.layer:Int))
 c2:cs[o+2]?=some (.int .i64 r.fa)
 c3:cs[o+3]?=some (.int .i64 r.tu)
 c4:cs[o+4]?=some (.map (some r.rm))
def RelsC (cs:Array Value) (rs:List RelX):Prop:=∀ (i:Nat) (r:RelX),rs[i]?=some r→RelC cs (i * 5) r
theorem RelC.other {cs:Array Value} {o:Nat} {r:RelX} (h:RelC cs o r) {j:Nat} {v:Value} (hj:j<o∨o+5≤j):RelC (cs.setIfInBounds j v) o r:=by
 constructor <;> rw [Array.getElem?_setIfInBounds,if_neg (by omega)]
 ·exact h.c0
 ·exact h.c1
 ·exact h.c2
 ·exact h.c3
 ·exact h.c4
theorem RelC.setTu {cs:Array Value} {o:Nat} {r:RelX} (h:RelC cs o r) (t:Int):RelC (cs.setIfInBounds (o+3) (.int .i64 t)) o { r with tu:=t }:=by
 have hs:o+3<cs.size:=(Array.getElem?_eq_some_iff.1 h.c3).1;constructor
 ·rw [Array.getElem?_setIfInBounds,if_neg (by omega)];exact h.c0
 ·rw [Array.getElem?_setIfInBounds,if_neg (by omega)];exact h.c1
 ·rw [Array.getElem?_setIfInBounds,if_neg (by omega)];exact h.c2
 ·rw [Array.getElem?_setIfInBounds,if_pos rfl,if_pos hs]
 ·rw [Array.getElem?_setIfInBounds,if_neg (by omega)];exact h.c4
theorem RelC.setFa {cs:Array Value} {o:Nat} {r:RelX} (h:RelC cs o r) (t:Int):RelC (cs.setIfInBounds (o+2) (.int .i64 t)) o { r with fa:=t }:=by
 have hs:o+2<cs.size:=(Array.getElem?_eq_some_iff.1 h.c2).1;constructor
 ·rw [Array.getElem?_setIfInBounds,if_neg (by omega)];exact h.c0
 ·rw [Array.getElem?_setIfInBounds,if_neg (by omega)];exact h.c1
 ·rw [Array.getElem?_setIfInBounds,if_pos rfl,if_pos hs]
 ·rw [Array.getElem?_setIfInBounds,if_neg (by omega)];exact h.c3
 ·rw [Array.getElem?_setIfInBounds,if_neg (by omega)];exact h.c4
theorem RelC.mapL {cs:Array Value} {o:Nat} {r:RelX} (h:RelC cs o r) (L:List (Int×Int)):RelC cs o { r with L:=L }:=⟨h.c0,h.c1,h.c2,h.c3,h.c4⟩
theorem RelsC.set {cs cs':Array Value} {rs:List RelX} {i:Nat} {r:RelX} (h:RelsC cs rs) (hr:RelC cs' (i * 5) r) (ho:∀ (j:Nat) (q:RelX),j≠i→RelC cs (j * 5) q→RelC cs' (j * 5) q):RelsC cs' (rs.set i r):=fun j q hj=>by
 rw [List.getElem?_set] at hj;by_cases e:i=j
 ·subst e;split at hj
  ·split at hj
   ·cases hj;exact hr
   ·cases hj
  ·omega
 ·rw [if_neg e] at hj;exact ho j q (Ne.symm e) (h j q hj)
structure Bse (w:World) (bb:Nat) (B:SB) (S:ST) (gr cr:Nat) (rs:List RelX) (x0 x1 x3:Value):Prop where
 cells:cQA w bb #[x0,x1,.slice (some ⟨gr,0,none⟩) rs.length cr,x3,.pointer (some ⟨B.b,0,none⟩)]
 eng:EngS w B S
 rel:∃ cs,cQA w gr cs∧RelsC cs rs
 maps:∀ r∈rs,cQB eI eI w r.rm r.L
 bbB:bb∉B.own
 grB:gr∉B.own
 rmB:∀ r∈rs,r.rm∉B.own
 bbgr:bb≠gr
 bbrm:∀ r∈rs,bb≠r.rm
 grrm:∀ r∈rs,gr≠r.rm
 nodup:(rs.map (·.rm)).Nodup
 few:rs.length≤6
 cols:∀ r∈rs,r.n≤3
def ftp (B:SB) (gr:Nat) (rs:List RelX):List Nat:=gr :: (rs.map (·.rm)++B.own)
section
variable {w w':World} {bb gr cr:Nat} {B:SB} {S S':ST} {rs:List RelX} {x0 x1 x3:Value}
theorem Bse.bs (h:Bse w bb B S gr cr rs x0 x1 x3):BsAt w bb B:=⟨by have:=h.cells.cell 4;simpa using this,h.cells.lt,h.bbB⟩
theorem Bse.keeps0 (h:Bse w bb B S gr cr rs x0 x1 x3) (k:aQA [] w w'):Bse w' bb B S gr cr rs x0 x1 x3:=
 ⟨h.cells.keeps k (by simp),h.eng.keeps0 k,let ⟨cs,h1,h2⟩:=h.rel;⟨cs,h1.keeps k (by simp),h2⟩,fun r hr=>(h.maps r hr).kept k (by simp),h.bbB,h.grB,h.rmB,h.bbgr,h.bbrm,h.grrm,h.nodup,h.few,h.cols⟩
theorem Bse.store (h:Bse w bb B S gr cr rs x0 x1 x3) (k:aQA B.own w w') (hE:EngS w' B S'):Bse w' bb B S' gr cr rs x0 x1 x3:=
 ⟨h.cells.keeps k h.bbB,hE,let ⟨cs,h1,h2⟩:=h.rel;⟨cs,h1.keeps k h.grB,h2⟩,fun r hr=>(h.maps r hr).kept k (h.rmB r hr),h.bbB,h.grB,h.rmB,h.bbgr,h.bbrm,h.grrm,h.nodup,h.few,h.cols⟩
theorem set_rm {rs:List RelX} {i:Nat} {r r':RelX} (hi:rs[i]?=some r) (he:r'.rm=r.rm):(rs.set i r').map (·.rm)=rs.map (·.rm):=by
 apply List.ext_getElem?;intro j;rw [List.getElem?_map,List.getElem?_map,List.getElem?_set];by_cases e:i=j
 ·subst e;have hl:=(List.getElem?_eq_some_iff.1 hi).1;rw [if_pos rfl,if_pos hl,hi];simp [he]
 ·rw [if_neg e]
theorem ftp_set {i:Nat} {r r':RelX} (hi:rs[i]?=some r) (he:r'.rm=r.rm):ftp B gr (rs.set i r')=ftp B gr rs:=by unfold ftp;rw [set_rm hi he]
theorem mem_set {rs:List RelX} {i:Nat} {r' x:RelX} (h:x∈rs.set i r'):x=r'∨x∈rs:=by
 obtain ⟨j,hj,rfl⟩:=List.getElem_of_mem h;rw [List.getElem_set];split
 ·exact .inl rfl
 ·exact .inr (List.getElem_mem _)
theorem Bse.turn (h:Bse w bb B S gr cr rs x0 x1 x3) {i:Nat} {r:RelX} (hi:rs[i]?=some r) {r':RelX} (hn:r'.n=r.n) (hm:r'.rm=r.rm) (k:aQA (gr :: r.rm :: B.own) w w') (hE:EngS w' B S') {cs':Array Value} (hc:cQA w' gr cs') (hcs:RelsC cs' (rs.set i r')) (hmap:cQB eI eI w' r.rm r'.L):Bse w' bb B S' gr cr (rs.set i r') x0 x1 x3:=by
 have hr:=List.mem_of_getElem? hi;have hfar:∀ x∈rs,x.rm≠r.rm→x.rm∉gr :: r.rm :: B.own:=fun x hx hne hm=>by
  rcases List.mem_cons.1 hm with e | hm
  ·exact h.grrm x hx e.symm
  ·rcases List.mem_cons.1 hm with e | hm
   ·exact hne e
   ·exact h.rmB x hx hm
 have hbb:bb∉gr :: r.rm :: B.own:=xQA h.bbgr (xQA (h.bbrm r hr) h.bbB);refine ⟨by rw [List.length_set];exact h.cells.keeps k hbb,hE,⟨cs',hc,hcs⟩,fun x hx=>?_,h.bbB,h.grB,fun x hx=>?_,h.bbgr,fun x hx=>?_,fun x hx=>?_,by rw [set_rm hi hm];exact h.nodup,by rw [List.length_set];exact h.few,fun x hx=>?_⟩
 ·obtain ⟨j,hj,rfl⟩:=List.getElem_of_mem hx;rw [List.getElem_set];split
  ·rw [hm];exact hmap
  ·rename_i hne;rw [List.length_set] at hj;refine (h.maps _ (List.getElem_mem hj)).kept k (hfar _ (List.getElem_mem hj) fun e=>hne ?_);have hl:=(List.getElem?_eq_some_iff.1 hi);have h1:(rs.map (·.rm))[i]?=some r.rm:=by rw [List.getElem?_map,hi];rfl
   have h2:(rs.map (·.rm))[j]?=some r.rm:=by rw [List.getElem?_map,List.getElem?_eq_getElem hj,←e];rfl
   exact (List.getElem?_inj (by simpa using hl.1) h.nodup).1 (h1.trans h2.symm)
 ·rcases mem_set hx with rfl | hx
  ·rw [hm];exact h.rmB r hr
  ·exact h.rmB x hx
 ·rcases mem_set hx with rfl | hx
  ·rw [hm];exact h.bbrm r hr
  ·exact h.bbrm x hx
 ·rcases mem_set hx with rfl | hx
  ·rw [hm];exact h.grrm r hr
  ·exact h.grrm x hx
 ·rcases mem_set hx with rfl | hx
  ·rw [hn];exact h.cols r hr
  ·exact h.cols x hx
theorem ftp_turn {i:Nat} {r:RelX} (hi:rs[i]?=some r) (k:aQA (gr :: r.rm :: B.own) w w'):aQA (ftp B gr rs) w w':=k.mono (fun j hj=>by
 have hr:=List.mem_of_getElem? hi;rcases List.mem_cons.1 hj with rfl | hj
 ·simp [ftp]
 ·rcases List.mem_cons.1 hj with rfl | hj
  ·simp only [ftp,List.mem_cons,List.mem_append,List.mem_map];exact .inr (.inl ⟨r,hr,rfl⟩)
  ·simp [ftp,hj])
end
end
section
open Go.RowKit
structure RelS (S:ST) (r:RelX) (Fa:List Nat→Prop) (rk:List Nat→Option Nat):Prop where
 fa:Rep S r.fa r.n Fa
 tu:Rep S r.tu r.n (fun l=>(rk l).isSome=true)
 ranks:∀ l∈alls r.n,get r.L (asn l:Int)=(rk l).map (fun m:Nat=>(m:Int))
def AllS (S:ST) (rs:List RelX) (Fs:Nat→List Nat→Prop) (rks:Nat→List Nat→Option Nat):Prop:=∀ (i:Nat) (r:RelX),rs[i]?=some r→RelS S r (Fs i) (rks i)
open Classical in
noncomputable def fQJ (rk:List Nat→Option Nat) (X:List Nat→Prop) (n:Nat):List Nat→Option Nat:=fun l=>if X l then some n else rk l
theorem Rep.ext {S S':ST} {f:Int} {c:Nat} {R:List Nat→Prop} (h:Rep S f c R) (x:Ext S S') (hw:WF S) (hw':WF S'):Rep S' f c R:=⟨x.ok h.1,fun σ=>by rw [x.den hw hw' h.1];exact h.2 σ⟩
theorem Rep.iff {S:ST} {f:Int} {c:Nat} {R R':List Nat→Prop} (h:Rep S f c R) (hi:∀ l∈alls c,(R l↔R' l)):Rep S f c R':=⟨h.1,fun σ=>by rw [h.2,hi _ (tupF_mem σ c 0)]⟩
theorem RelS.ext {S S':ST} {r:RelX} {Fa:List Nat→Prop} {rk:List Nat→Option Nat} (h:RelS S r Fa rk) (x:Ext S S') (hw:WF S) (hw':WF S'):RelS S' r Fa rk:=⟨h.fa.ext x hw hw',h.tu.ext x hw hw',h.ranks⟩
theorem AllS.ext {S S':ST} {rs:List RelX} {Fs:Nat→List Nat→Prop} {rks:Nat→List Nat→Option Nat} (h:AllS S rs Fs rks) (x:Ext S S') (hw:WF S) (hw':WF S'):AllS S' rs Fs rks:=fun i r hi=>(h i r hi).ext x hw hw'
def upR (rks:Nat→List Nat→Option Nat) (i:Nat) (rk:List Nat→Option Nat):Nat→List Nat→Option Nat:=fun j=>if j=i then rk else rks j
theorem AllS.set {S:ST} {rs:List RelX} {Fs:Nat→List Nat→Prop} {rks:Nat→List Nat→Option Nat} (h:AllS S rs Fs rks) {i:Nat} {r':RelX} {rk:List Nat→Option Nat} (hr:RelS S r' (Fs i) rk):AllS S (rs.set i r') Fs (upR rks i rk):=fun j q hj=>by
 rw [List.getElem?_set] at hj;unfold upR;by_cases e:i=j
 ·subst e;rw [if_pos rfl] at hj ⊢;split at hj
  ·cases hj;exact hr
  ·cases hj
 ·rw [if_neg e] at hj;rw [if_neg (fun q=>e q.symm)];exact h j q hj
structure LikeR (r r':RelX):Prop where
 sa:r'.sa=r.sa
 n:r'.n=r.n
 cc:r'.cc=r.cc
 layer:r'.layer=r.layer
 fa:r'.fa=r.fa
 rm:r'.rm=r.rm
theorem LikeR.refl (r:RelX):LikeR r r:=⟨rfl,rfl,rfl,rfl,rfl,rfl⟩
theorem LikeR.trans {a b c:RelX} (h:LikeR a b) (k:LikeR b c):LikeR a c:=⟨k.sa.trans h.sa,k.n.trans h.n,k.cc.trans h.cc,k.layer.trans h.layer,k.fa.trans h.fa,k.rm.trans h.rm⟩
def nQC (rs rs':List RelX):Prop:=rs'.length=rs.length∧∀ (i:Nat) (r:RelX),rs[i]?=some r→∃ r',rs'[i]?=some r'∧LikeR r r'
theorem nQC.refl (rs:List RelX):nQC rs rs:=⟨rfl,fun _ r h=>⟨r,h,LikeR.refl r⟩⟩
theorem nQC.trans {a b c:List RelX} (h:nQC a b) (k:nQC b c):nQC a c:=⟨k.1.trans h.1,fun i r hi=>by
 obtain ⟨r1,h1,l1⟩:=h.2 i r hi;obtain ⟨r2,h2,l2⟩:=k.2 i r1 h1
 exact ⟨r2,h2,l1.trans l2⟩⟩
theorem nQC.set {rs:List RelX} {i:Nat} {r r':RelX} (hi:rs[i]?=some r) (h:LikeR r r'):nQC rs (rs.set i r'):=⟨by simp,fun j q hj=>by
 rw [List.getElem?_set];by_cases e:i=j
 ·subst e;rw [hi] at hj;cases hj;have hl:=(List.getElem?_eq_some_iff.1 hi).1;exact ⟨r',by rw [if_pos rfl,if_pos hl],h⟩
 ·exact ⟨q,by rw [if_neg e];exact hj,LikeR.refl q⟩⟩
theorem nQC.ftp {B:SB} {gr:Nat} {rs rs':List RelX} (h:nQC rs rs'):ftp B gr rs' = ftp B gr rs:=by
 have e:rs'.map (·.rm)=rs.map (·.rm):=by
  apply List.ext_getElem?;intro j;rw [List.getElem?_map,List.getElem?_map];by_cases hj:j<rs.length
  ·obtain ⟨r',h1,h2⟩:=h.2 j _ (List.getElem?_eq_getElem hj);rw [h1,List.getElem?_eq_getElem hj];simp [h2.rm]
  ·rw [List.getElem?_eq_none (by rw [h.1];omega),List.getElem?_eq_none (by omega)]
 unfold YtgjomknpjigkhaaGreatDoor.ftp;rw [e]
theorem bse_add {w:World} {bb gr cr:Nat} {B:SB} {S:ST} {rs:List RelX} {x0 x1 x3:Value} (h:Bse w bb B S gr cr rs x0 x1 x3) {i:Nat} {r:RelX} (hi:rs[i]?=some r) {Fa:List Nat→Prop} {rk:List Nat→Option Nat} (hs:RelS S r Fa rk) {x:Int} {X:List Nat→Prop} (hx:Rep S x r.n X) (rank:Nat) (hl:S.next+4095<lim) :
  Calls prog 261 #[.pointer (some ⟨bb,0,none⟩),.pointer (some ⟨gr,i * 5,none⟩),.int .i64 x,.int .i64 (rank:Int)] w fun e w'=>e=.returned (.tuple #[])∧∃ r' S',Bse w' bb B S' gr cr (rs.set i r') x0 x1 x3∧aQA (ftp B gr rs) w w'∧Ext S S'∧S'.next≤S.next+4095∧LikeR r r'∧RelS S' r' Fa (fQJ rk X rank):=by
 obtain ⟨cs,hc,hcs⟩:=h.rel;have hr:=List.mem_of_getElem? hi;have c:=hcs i r hi;refine (badd_calls h.eng h.bs hc c.c0 c.c3 c.c4 (h.maps r hr) (h.cols r hr) hs.tu hx h.grB (h.rmB r hr) (h.grrm r hr) h.bbgr (h.bbrm r hr) hl).mono ?_;rintro e w' ⟨rfl,t,S',L',hE',hc',hm',k',x',n',ht',hL'⟩;refine ⟨rfl,{ r with tu:=t,L:=L' },S',h.turn hi rfl rfl k' hE' hc' (hcs.set ((c.setTu t).mapL L') (fun j q hj hq=>hq.other (by omega))) hm',ftp_turn hi k',x',n',⟨rfl,rfl,rfl,rfl,rfl,rfl⟩,hs.fa.ext x' h.eng.wf hE'.wf,ht'.iff fun l _=>?_,fun l hl=>?_⟩
 ·unfold fQJ;by_cases hX:X l
  ·simp [hX]
  ·simp [hX]
 ·show get L' _=_;rw [hL' (asn l)];have hiff:asn l∈S'.trues x (3 * r.n)↔X l:=by
   rw [trues_rep (hx.ext x' h.eng.wf hE'.wf)];exact ⟨fun ⟨m,hm,hX,e⟩=>by rw [asn_inj hl hm e];exact hX,fun hX=>⟨l,hl,hX,rfl⟩⟩
  unfold fQJ;by_cases hX:X l
  ·rw [if_pos (hiff.2 hX),if_pos hX];rfl
  ·rw [if_neg (fun q=>hX (hiff.1 q)),if_neg hX];exact hs.ranks l hl
end
section
open Go.RowKit
def rQI (rs:List RelX) (i:Nat):Nat:=(rs[i]?.map (·.layer)).getD 0
noncomputable def dQD (rs:List RelX) (Fs:Nat→List Nat→Prop) (rks:Nat→List Nat→Option Nat) (lay j:Nat):Nat→List Nat→Option Nat:=fun i=>if i<j∧rQI rs i=lay then fQJ (fun _=>none) (Fs i) 0 else rks i
theorem leaveRk_skip {rs:List RelX} {Fs:Nat→List Nat→Prop} {rks:Nat→List Nat→Option Nat} {lay j:Nat} (h:rQI rs j≠lay):dQD rs Fs rks lay (j+1)=dQD rs Fs rks lay j:=by
 funext i
 unfold dQD;by_cases e:i=j
 ·subst e;rw [if_neg (by omega),if_neg (by omega)]
 ·have:(i<j+1∧rQI rs i=lay)↔(i<j∧rQI rs i=lay):=by omega
  simp only [this]
theorem leaveRk_take {rs:List RelX} {Fs:Nat→List Nat→Prop} {rks:Nat→List Nat→Option Nat} {lay j:Nat} (h:rQI rs j=lay):dQD rs Fs rks lay (j+1)=upR (dQD rs Fs rks lay j) j (fQJ (fun _=>none) (Fs j) 0):=by
 funext i
 unfold dQD upR;by_cases e:i=j
 ·subst e;rw [if_pos ⟨by omega,h⟩,if_pos rfl]
 ·have:(i<j+1∧rQI rs i=lay)↔(i<j∧rQI rs i=lay):=by omega
  simp only [this,e,if_false]
theorem RelS.none {S:ST} {r:RelX} {Fa:List Nat→Prop} {rk:List Nat→Option Nat} (h:RelS S r Fa rk):RelS S { r with tu:=0,L:=[] } Fa (fun _=>none):=⟨h.fa,⟨yQE S,fun σ=>by simp [eQB]⟩,fun l _=>rfl⟩
theorem leave_calls {w:World} {bb gr cr:Nat} {B:SB} {S:ST} {rs:List RelX} {x0 x1 x3:Value} (h:Bse w bb B S gr cr rs x0 x1 x3) {Fs:Nat→List Nat→Prop} {rks:Nat→List Nat→Option Nat} (ha:AllS S rs Fs rks) (lay:Nat) (hl:S.next+24570<lim) :
  Calls prog 215 #[.pointer (some ⟨bb,0,none⟩),.int .i64 (lay:Int)] w fun e w'=>e=.returned (.tuple #[])∧∃ rs' S',Bse w' bb B S' gr cr rs' x0 x1 x3∧nQC rs rs'∧aQA (ftp B gr rs) w w'∧Ext S S'∧S'.next≤S.next+24570∧AllS S' rs' Fs (dQD rs Fs rks lay rs.length):=by
 have c2:=h.cells.cell 2;simp at c2;have h6:=h.few;have Hl:=hide hl;clear hl;go_enter func215,ntmps215
 go_wp2_with fail
 clear c2;go_loopw [11] (fun y wr=>∃ (j:Nat) (rs':List RelX) (S':ST),y=.int .i64 j∧j≤rs.length∧Bse wr bb B S' gr cr rs' x0 x1 x3∧nQC rs rs'∧aQA (ftp B gr rs) w wr∧Ext S S'∧S'.next≤S.next+4095 * j∧AllS S' rs' Fs (dQD rs Fs rks lay j)) (fun y _=>((rs.length:Int) - intOf y).toNat)
 case atStart=>exact ⟨0,rs,S,rfl,by omega,h,nQC.refl rs,aQA.refl _ _,Ext.refl S,by omega,fun i r hi=>by
  have e:dQD rs Fs rks lay 0=rks:=by funext i;unfold dQD;rw [if_neg (by omega)]
  rw [e];exact ha i r hi⟩
 case round=>
  obtain ⟨j,rs',S',rfl,hj,hb,hlk,hk,hx,hn,hs⟩:=hrel;have Hn:=hide hn;clear hn;by_cases hjl:j<rs.length
  ·have hjI:(j:Int)<rs.length:=(by omega);obtain ⟨r0,hr0⟩:∃ r,rs[j]?=some r:=⟨_,List.getElem?_eq_getElem hjl⟩;obtain ⟨r,hr,hrl⟩:=hlk.2 j r0 hr0;obtain ⟨cs,hc,hcs⟩:=hb.rel;have c:=hcs j r hr;have hmem:=List.mem_of_getElem? hr;have g2:=hb.cells.cell 2;simp at g2;rw [hlk.1] at g2;have q1:wr.cell? ⟨gr,j * 5+1,none⟩=some (.int .i64 (r.layer:Int)):=by rw [hc.cell];exact c.c1
   have q3:wr.cell? ⟨gr,j * 5+3,none⟩=some (.int .i64 r.tu):=by rw [hc.cell];exact c.c3
   have f3:=hc.frozen (j * 5+3);have hlo:rQI rs j=r.layer:=(by simp [rQI,hr0,hrl.layer]);by_cases hly:r.layer=lay
   ·have hlI:(r.layer:Int)=lay:=(by omega);have kS:=aQA.setCell wr ⟨gr,j * 5+3,none⟩ (.int .i64 0);have hcS:=hc.setCell (j * 5+3) (.int .i64 0);have hmS:=(hb.maps r hmem).kept kS (by simpa using Ne.symm (hb.grrm r hmem));obtain ⟨o,hrun,hm⟩:=run_clear (P:=prog) underlying146 hmS 0;have hrun':=fun (ty:TypeId)=>(show (Builtin.clear_ #[146] ty #[.map (some r.rm)]).run prog _=_ from hrun);have kC:=aQA.blk (wr.setCell ⟨gr,j * 5+3,none⟩ (.int .i64 0)) r.rm o;have hcC:=hcS.keeps kC (by simpa using hb.grrm r hmem);have kk:aQA (gr :: r.rm :: B.own) wr (blk (wr.setCell ⟨gr,j * 5+3,none⟩ (.int .i64 0)) r.rm o):=(kS.mono (by simp)).trans (kC.mono (by simp));have hEC:=(hb.eng.keeps kS (fun q hq hm=>hb.grB (by simp only [List.mem_singleton] at hm;rw [←hm];exact hq))).keeps kC (fun q hq hm=>hb.rmB r hmem (by simp only [List.mem_singleton] at hm;rw [←hm];exact hq));have hbC:=hb.turn hr (r':={ r with tu:=0,L:=[] }) rfl rfl kk hEC hcC (hcs.set ((c.setTu 0).mapL []) (fun j' q hj' hq=>hq.other (by omega))) hm;have hl2:j<rs'.length:=(List.getElem?_eq_some_iff.1 hr).1;have hiC:(rs'.set j { r with tu:=0,L:=[] })[j]?=some { r with tu:=0,L:=[] }:=(by rw [List.getElem?_set,if_pos rfl,if_pos hl2]);have hadd:=hide (bse_add hbC hiC (hs j r hr).none (x:=r.fa) (X:=Fs j) (hs j r hr).fa 0 (by have:=Hl.out;have:=Hn.out;omega));have q4:(wr.setCell ⟨gr,j * 5+3,none⟩ (.int .i64 0)).cell? ⟨gr,j * 5+4,none⟩=some (.map (some r.rm)):=by rw [hcS.cell,Array.getElem?_setIfInBounds,if_neg (by omega)];exact c.c4
    have q2:(blk (wr.setCell ⟨gr,j * 5+3,none⟩ (.int .i64 0)) r.rm o).cell? ⟨gr,j * 5+2,none⟩=some (.int .i64 r.fa):=by rw [hcC.cell,Array.getElem?_setIfInBounds,if_neg (by omega)];exact c.c2
    have Hkk:=hide kk;have Hlo:Hid (rQI rs j=lay):=hlo.trans hly;have Hft:=hide (ftp_set (B:=B) (gr:=gr) hr (r':={ r with tu:=0,L:=[] }) rfl);clear hrun hlo hly kk kS kC hmS hbC hEC hcS hcC hm hiC;go_wp2_with fail
    refine hadd.out.mono ?_;rintro e w5 ⟨rfl,r',S5,hb5,k5,x5,n5,lk5,hs5⟩;rw [Hft.out] at k5;have k6:aQA (ftp B gr rs) wr w5:=by have:=(ftp_turn hr Hkk.out).trans k5;rw [hlk.ftp] at this;exact this
    have e5:(rs'.set j { r with tu:=0,L:=[] }).set j r' = rs'.set j r':=(by rw [List.set_set]);rw [e5] at hb5;have lk6:LikeR r r':=⟨lk5.sa,lk5.n,lk5.cc,lk5.layer,lk5.fa,lk5.rm⟩;have Hn5:=hide n5;clear n5 e5 hadd;go_wp2_with fail
    go_roundw
    ·exact ⟨j+1,rs'.set j r',S5,by simp,by omega,hb5,hlk.trans (nQC.set hr lk6),hk.trans k6,hx.trans x5,by have:=Hn.out;have:=Hn5.out;push_cast;omega,by rw [leaveRk_take Hlo.out];exact (hs.ext x5 hb.eng.wf hb5.eng.wf).set hs5⟩
    ·simp only [intOf];omega
   ·have hlI:((r.layer:Int) == (lay:Int))=false:=by simp;omega
    have Hlo:Hid (rQI rs j≠lay):=by rw [hlo];exact hly
    clear hlo hly;go_wp2_with fail
    go_roundw
    ·exact ⟨j+1,rs',S',by simp,by omega,hb,hlk,hk,hx,by have:=Hn.out;push_cast;omega,by rw [leaveRk_skip Hlo.out];exact hs⟩
    ·simp only [intOf];omega
  ·have hjI:¬ (j:Int)<rs.length:=(by omega);have e:j=rs.length:=(by omega);subst e;go_wp2_with fail
   go_end0
   exact ⟨rfl,rs',S',hb,hlk,hk,hx,by have:=Hn.out;omega,hs⟩
end
section
open Go.RowKit
def FndS (S:ST) (rs:List RelX) (fs:List Int) (Xs:Nat→List Nat→Prop):Prop:=fs.length=rs.length∧∀ (i:Nat) (r:RelX) (f:Int),rs[i]?=some r→fs[i]?=some f→Rep S f r.n (Xs i)
theorem FndS.ext {S S':ST} {rs:List RelX} {fs:List Int} {Xs:Nat→List Nat→Prop} (h:FndS S rs fs Xs) (x:Ext S S') (hw:WF S) (hw':WF S'):FndS S' rs fs Xs:=⟨h.1,fun i r f h1 h2=>(h.2 i r f h1 h2).ext x hw hw'⟩
theorem FndS.like {S:ST} {rs rs':List RelX} {fs:List Int} {Xs:Nat→List Nat→Prop} (h:FndS S rs fs Xs) (k:nQC rs rs'):FndS S rs' fs Xs:=⟨by rw [h.1,k.1],fun i r f h1 h2=>by
 have hl:i<rs.length:=by rw [←k.1];exact (List.getElem?_eq_some_iff.1 h1).1
 obtain ⟨r',e1,e2⟩:=k.2 i _ (List.getElem?_eq_getElem hl);rw [h1] at e1;cases e1;rw [e2.n]
 exact h.2 i _ f (List.getElem?_eq_getElem hl) h2⟩
noncomputable def uQD (rks:Nat→List Nat→Option Nat) (Xs:Nat→List Nat→Prop) (rank j:Nat):Nat→List Nat→Option Nat:=fun i=>if i<j then fQJ (rks i) (Xs i) rank else rks i
theorem freshRk_step {rks:Nat→List Nat→Option Nat} {Xs:Nat→List Nat→Prop} {rank j:Nat}:uQD rks Xs rank (j+1)=upR (uQD rks Xs rank j) j (fQJ (rks j) (Xs j) rank):=by
 funext i
 unfold uQD upR;by_cases e:i=j
 ·subst e;rw [if_pos (by omega),if_pos rfl]
 ·have:i<j+1↔i<j:=by omega
  simp only [this,e,if_false]
def gB (fs:List Int) (j:Nat):Bool:=(fs.take j).any (fun f=>f != 0)
theorem gB_step {fs:List Int} {j:Nat} {f:Int} (h:fs[j]?=some f):gB fs (j+1)=(gB fs j || f != 0):=by
 unfold gB;rw [List.take_add_one,h];simp
theorem fresh_calls {w:World} {bb gr cr:Nat} {B:SB} {S:ST} {rs:List RelX} {x0 x1 x3:Value} (h:Bse w bb B S gr cr rs x0 x1 x3) {Fs:Nat→List Nat→Prop} {rks:Nat→List Nat→Option Nat} (ha:AllS S rs Fs rks) {gf cf:Nat} {fs:List Int} (hrow:lQB w gf fs) (hgf:gf∉ftp B gr rs) {Xs:Nat→List Nat→Prop} (hf:FndS S rs fs Xs) (rank:Nat) (hl:S.next+24570<lim) :
  Calls prog 218 #[.pointer (some ⟨bb,0,none⟩),.slice (some ⟨gf,0,none⟩) fs.length cf,.int .i64 (rank:Int)] w fun e w'=>e=.returned (.bool (gB fs fs.length))∧∃ rs' S',Bse w' bb B S' gr cr rs' x0 x1 x3∧nQC rs rs'∧aQA (ftp B gr rs) w w'∧Ext S S'∧S'.next≤S.next+24570∧AllS S' rs' Fs (uQD rks Xs rank rs.length):=by
 have h6:=h.few;have hlen:=hf.1;have Hl:=hide hl;have Hlen:=hide hlen;have hf6:fs.length≤6:=by omega
 clear hl hlen;go_enter func218,ntmps218
 go_wp2_with fail
 go_loopw [7,12] (fun x y wr=>∃ (j:Nat) (rs':List RelX) (S':ST),x=.bool (gB fs j)∧y=.int .i64 j∧j≤fs.length∧Bse wr bb B S' gr cr rs' x0 x1 x3∧nQC rs rs'∧aQA (ftp B gr rs) w wr∧Ext S S'∧S'.next≤S.next+4095 * j∧AllS S' rs' Fs (uQD rks Xs rank j)) (fun _ y _=>((fs.length:Int) - intOf y).toNat)
 case atStart=>exact ⟨0,rs,S,rfl,rfl,by omega,h,nQC.refl rs,aQA.refl _ _,Ext.refl S,by omega,fun i r hi=>by
  have e:uQD rks Xs rank 0=rks:=by funext i;unfold uQD;rw [if_neg (by omega)]
  rw [e];exact ha i r hi⟩
 case round=>
  obtain ⟨j,rs',S',rfl,rfl,hj,hb,hlk,hk,hx,hn,hs⟩:=hrel;have Hn:=hide hn;clear hn;by_cases hjl:j<fs.length
  ·have hjI:(j:Int)<fs.length:=(by omega);have hjr:j<rs'.length:=by rw [hlk.1,←Hlen.out];exact hjl
   have hjrI:(j:Int)<rs'.length:=(by omega);obtain ⟨f,hff⟩:∃ f,fs[j]?=some f:=⟨_,List.getElem?_eq_getElem hjl⟩;obtain ⟨r,hr⟩:∃ r,rs'[j]?=some r:=⟨_,List.getElem?_eq_getElem hjr⟩;have hrw:=hrow.keepsE hk hgf;have g0:=hrw.cell hff;have g2:=hb.cells.cell 2;simp at g2;have e1:uQD rks Xs rank j j=rks j:=by unfold uQD;rw [if_neg (by omega)]
   have hadd:=hide (bse_add hb hr (by have:=hs j r hr;rw [e1] at this;exact this) (x:=f) (X:=Xs j) (((hf.like hlk).2 j r f hr hff).ext hx h.eng.wf hb.eng.wf) rank (by have:=Hl.out;have:=Hn.out;omega));have Hst:=hide (gB_step hff);have Hr:=hide hr;have hjr0:j<rs.length:=by rw [←Hlen.out];exact hjl
   clear hff hr e1 hjr;go_wp2_with fail
   refine hadd.out.mono ?_;rintro e w5 ⟨rfl,r',S5,hb5,k5,x5,n5,lk5,hs5⟩;rw [hlk.ftp] at k5;have Hn5:=hide n5;clear n5 hadd
   have Hfin:Hid (∃ (j_1:Nat) (rs':List RelX) (S':ST),Value.bool (gB fs (j+1))=.bool (gB fs j_1)∧Value.int .i64 ((j:Int)+1)=.int .i64 j_1∧j_1≤fs.length∧Bse w5 bb B S' gr cr rs' x0 x1 x3∧nQC rs rs'∧aQA (ftp B gr rs) w w5∧Ext S S'∧S'.next≤S.next+4095 * j_1∧AllS S' rs' Fs (uQD rks Xs rank j_1)):=
    ⟨j+1,rs'.set j r',S5,rfl,by simp,by omega,hb5,hlk.trans (nQC.set Hr.out lk5),hk.trans k5,hx.trans x5,by have:=Hn.out;have:=Hn5.out;push_cast;omega,by rw [freshRk_step];exact (hs.ext x5 hb.eng.wf hb5.eng.wf).set hs5⟩
   rw [Hst.out] at Hfin;cases hg:gB fs j
   all_goals
    rw [hg] at Hfin;go_wp2_with fail
    refine ⟨?_,by simp only [intOf];omega⟩;have:=Hfin.out;simpa using this
  ·have hjI:¬ (j:Int)<fs.length:=(by omega);have e:j=fs.length:=(by omega);subst e;go_wp2_with fail
   go_ret
   exact ⟨rfl,rs',S',hb,hlk,hk,hx,by have:=Hn.out;omega,by rw [←Hlen.out];exact hs⟩
def outX (Xs:Nat→List Nat→Prop) (rks:Nat→List Nat→Option Nat) (j:Nat):Nat→List Nat→Prop:=fun i l=>Xs i l∧(i<j→(rks i l).isSome≠true)
theorem without_calls {w:World} {bb gr cr:Nat} {B:SB} {S:ST} {rs:List RelX} {x0 x1 x3:Value} (h:Bse w bb B S gr cr rs x0 x1 x3) {Fs:Nat→List Nat→Prop} {rks:Nat→List Nat→Option Nat} (ha:AllS S rs Fs rks) {gf cf:Nat} {fs:List Int} (hrow:lQB w gf fs) (hgf:gf∉ftp B gr rs) (hgb:gf≠bb) {Xs:Nat→List Nat→Prop} (hf:FndS S rs fs Xs) (hl:S.next+24570<lim) :
  Calls prog 265 #[.pointer (some ⟨bb,0,none⟩),.slice (some ⟨gf,0,none⟩) fs.length cf] w fun e w'=>e=.returned (.slice (some ⟨gf,0,none⟩) fs.length cf)∧∃ fs' S',EngS w' B S'∧lQB w' gf fs'∧aQA (gf :: B.own) w w'∧Ext S S'∧S'.next≤S.next+24570∧FndS S' rs fs' (outX Xs rks rs.length):=by
 have h6:=h.few;have hlen:=hf.1;have Hl:=hide hl;have Hlen:=hide hlen;have hf6:fs.length≤6:=by omega
 have hgB:gf∉B.own:=fun q=>hgf (by simp [ftp,q]);have hgr:gf≠gr:=fun q=>hgf (by simp [ftp,q]);obtain ⟨cs,hc,hcs⟩:=h.rel;clear hl hlen;go_enter func265,ntmps265
 go_wp2_with fail
 go_loopw [9] (fun y wr=>∃ (j:Nat) (fs':List Int) (S':ST),y=.int .i64 j∧j≤fs.length∧EngS wr B S'∧lQB wr gf fs'∧aQA (gf :: B.own) w wr∧Ext S S'∧S'.next≤S.next+4095 * j∧FndS S' rs fs' (outX Xs rks j)) (fun y _=>((fs.length:Int) - intOf y).toNat)
 case atStart=>exact ⟨0,fs,S,rfl,by omega,h.eng,hrow,aQA.refl _ _,Ext.refl S,by omega,hf.1,fun i r f h1 h2=>(hf.2 i r f h1 h2).iff fun l _=>⟨fun q=>⟨q,fun q=>by omega⟩,fun q=>q.1⟩⟩
 case round=>
  obtain ⟨j,fs',S',rfl,hj,hE,hr,hk,hx,hn,hs⟩:=hrel;have Hn:=hide hn;clear hn;have hkb:bb∉gf :: B.own:=xQA (Ne.symm hgb) h.bbB;have hkg:gr∉gf :: B.own:=xQA (Ne.symm hgr) h.grB;by_cases hjl:j<fs.length
  ·have hjI:(j:Int)<fs.length:=(by omega);have hjf:j<fs'.length:=by rw [hs.1,←Hlen.out];exact hjl
   have hjr:j<rs.length:=by rw [←Hlen.out];exact hjl
   have hjrI:(j:Int)<rs.length:=(by omega);obtain ⟨f,hff⟩:∃ f,fs'[j]?=some f:=⟨_,List.getElem?_eq_getElem hjf⟩;obtain ⟨r,hrr⟩:∃ r,rs[j]?=some r:=⟨_,List.getElem?_eq_getElem hjr⟩;have c:=hcs j r hrr;have hcr:=hc.keeps hk hkg;have hcb:=h.cells.keeps hk hkb;have g0:=hr.cell hff;have g2:=hcb.cell 2;have g4:=hcb.cell 4;simp at g2 g4;have g3:wr.cell? ⟨gr,j * 5+3,none⟩=some (.int .i64 r.tu):=by rw [hcr.cell];exact c.c3
   have hRf:=hs.2 j r f hrr hff;have hRt:=(ha j r hrr).tu.ext hx h.eng.wf hE.wf;have hd:=hide (fun (W:World) (k:aQA [] wr W)=>diff_E (hE.keeps0 k) (f:=f) (g:=r.tu) ⟨hRf.1,hRf.2⟩ ⟨hRt.1,hRt.2⟩ (by have:=Hl.out;have:=Hn.out;omega))
   have h7:=hide (fun (W7:World) (k:aQA B.own wr.drew W7) (v:Value)=>
    let hb7:=(hcb.keeps (aQA.drew [] wr) (by simp)).keeps k h.bbB;let hg7:=(hcr.keeps (aQA.drew [] wr) (by simp)).keeps k h.grB;let hr7:=(hr.keepsE (aQA.drew [] wr) (by simp)).keepsE k hgB;let kS:=aQA.setCell W7 ⟨gf,j,none⟩ v;And.intro (show W7.cell? ⟨bb,2,none⟩=some (.slice (some ⟨gr,0,none⟩) rs.length cr) from by have:=hb7.cell 2;simpa using this) <| And.intro (show W7.cell? ⟨bb,4,none⟩=some (.pointer (some ⟨B.b,0,none⟩)) from by have:=hb7.cell 4;simpa using this) <| And.intro (show W7.cell? ⟨gr,j * 5+3,none⟩=some (.int .i64 r.tu) from by rw [hg7.cell];exact c.c3) <|
    And.intro (hr7.cell hff) <| And.intro (hr7.frozenE j) <| And.intro (show (W7.setCell ⟨gf,j,none⟩ v).cell? ⟨bb,2,none⟩=some (.slice (some ⟨gr,0,none⟩) rs.length cr) from by have:=(hb7.keeps kS (by simpa using Ne.symm hgb)).cell 2;simpa using this) <| And.intro (show (W7.setCell ⟨gf,j,none⟩ v).cell? ⟨bb,4,none⟩=some (.pointer (some ⟨B.b,0,none⟩)) from by have:=(hb7.keeps kS (by simpa using Ne.symm hgb)).cell 4;simpa using this) (show (W7.setCell ⟨gf,j,none⟩ v).cell? ⟨gr,j * 5+3,none⟩=some (.int .i64 r.tu) from by rw [(hg7.keeps kS (by simpa using Ne.symm hgr)).cell];exact c.c3))
   have Hff:=hide hff;have Hrr:=hide hrr;clear hff hrr hcr hcb hRf hRt c;go_wp2_with fail
   go_region_held3 (fun w'=>w'.cell? ⟨bb,2,none⟩=some (.slice (some ⟨gr,0,none⟩) rs.length cr)∧w'.cell? ⟨bb,4,none⟩=some (.pointer (some ⟨B.b,0,none⟩))∧w'.cell? ⟨gr,j * 5+3,none⟩=some (.int .i64 r.tu)) (first | exact ⟨g2,g4,g3⟩ | exact ⟨a0,a1,a2⟩ | exact ⟨(h7.out _ k5 _).2.2.2.2.2.1,(h7.out _ k5 _).2.2.2.2.2.2.1,(h7.out _ k5 _).2.2.2.2.2.2.2⟩)
    (first
    | (go_at_call 88
       refine (hd.out _ (aQA.drew [] _)).mono ?_;rintro e W5 ⟨t,S5,rfl,hE5,k5,x5,n5,hr5⟩
       obtain ⟨a0,a1,a2,a3,a4,_⟩:=h7.out W5 k5 undef))
   all_goals
    have hr6:=(((hr.keepsE (aQA.drew [] wr) (by simp)).keepsE k5 hgB).setE j t);have kS:=aQA.setCell W5 ⟨gf,j,none⟩ (.int .i64 t);have hE6:=hE5.keeps kS (fun q hq hm=>hgB (by simp only [List.mem_singleton] at hm;rw [←hm];exact hq));have Hn5:=hide n5;clear h7 hd n5 g0 g2 g3 g4 a0 a1 a2 a3 a4;go_wp2_with fail
    go_roundw
    ·refine ⟨j+1,fs'.set j t,S5,by simp,by omega,hE6,hr6,((hk.trans ((aQA.drew [] wr).mono (by simp))).trans (k5.mono (fun q hq=>List.mem_cons_of_mem _ hq))).trans (kS.mono (by simp)),hx.trans x5,by have:=Hn.out;have:=Hn5.out;push_cast;omega,by rw [List.length_set];exact hs.1,fun i q y hq hy=>?_⟩;rw [List.getElem?_set] at hy;by_cases e:j=i
     ·subst e;rw [if_pos rfl,if_pos hjf] at hy;cases hy;rw [Hrr.out] at hq;cases hq;refine ⟨hr5.1,fun σ=>?_⟩;rw [hr5.2];unfold outX;exact ⟨fun hh=>⟨hh.1.1,fun _=>hh.2⟩,fun hh=>⟨⟨hh.1,fun hlt=>by omega⟩,hh.2 (by omega)⟩⟩
     ·rw [if_neg e] at hy;refine ((hs.ext x5 hE.wf hE5.wf).2 i q y hq hy).iff fun l _=>?_;unfold outX;have:i<j+1↔i<j:=(by omega);rw [this]
    ·simp only [intOf];omega
  ·have hjI:¬ (j:Int)<fs.length:=(by omega);have e:j=fs.length:=(by omega);subst e;go_wp2_with fail
   go_ret
   exact ⟨rfl,fs',S',hE,hr,hk,hx,by have:=Hn.out;omega,by rw [←Hlen.out];exact hs⟩
end
section
open Go.RowKit
def HldS (S:ST) (hs:List Int) (Hs:List (List Nat→Prop)):Prop:=hs.length=Hs.length∧∀ (i:Nat) (h:Int) (H:List Nat→Prop),hs[i]?=some h→Hs[i]?=some H→Rep S h 4 H
theorem HldS.ext {S S':ST} {hs:List Int} {Hs:List (List Nat→Prop)} (h:HldS S hs Hs) (x:Ext S S') (hw:WF S) (hw':WF S'):HldS S' hs Hs:=⟨h.1,fun i a b h1 h2=>(h.2 i a b h1 h2).ext x hw hw'⟩
def allH (Hs:List (List Nat→Prop)) (j:Nat) (ν:List Nat):Prop:=∀ (i:Nat) (H:List Nat→Prop),i<j→Hs[i]?=some H→H ν
theorem allH_step {Hs:List (List Nat→Prop)} {j:Nat} {H:List Nat→Prop} (h:Hs[j]?=some H) (ν:List Nat):allH Hs (j+1) ν↔allH Hs j ν∧H ν:=by
 constructor
 ·exact fun hh=>⟨fun i G hi hG=>hh i G (by omega) hG,hh j H (by omega) h⟩
 ·rintro ⟨h1,h2⟩ i G hi hG;by_cases e:i<j
  ·exact h1 i G e hG
  ·have:i=j:=(by omega);subst this;rw [h] at hG;cases hG;exact h2
def bQK (ts:List uQA) (Φ:List Nat→Prop) (l:List Nat):Prop:=∃ ν,ν∈alls 4∧Φ ν∧ts.map (tvR ν)=l
def upX (Xs:Nat→List Nat→Prop) (i:Nat) (X:List Nat→Prop):Nat→List Nat→Prop:=fun j l=>if j=i then Xs i l∨X l else Xs j l
def ruV (ρ:Nat) (ta:Option Addr) (tn tc:Nat) (la:Option Addr) (ln lc:Nat) (ha:Option Addr) (hn hc:Nat):Value:=.agg #[.int .i64 (ρ:Int),.slice ta tn tc,.slice la ln lc,.slice ha hn hc]
theorem find_calls {w:World} {bb gr cr:Nat} {B:SB} {S:ST} {rs:List RelX} {x0 x1 x3:Value} (h:Bse w bb B S gr cr rs x0 x1 x3) {gf cf:Nat} {fs:List Int} (hrow:lQB w gf fs) (hgf:gf∉B.own) (hgb:gf≠bb) {Xs:Nat→List Nat→Prop} (hf:FndS S rs fs Xs) {ρ gt tc ln lc gh ch:Nat} {la:Option Addr} {ts:List uQA} (htr:TmRow w gt ts) (hgt:gt∉gf :: B.own) (htm:∀ t∈ts,TmOk t) {r:RelX} (hr:rs[ρ]?=some r) (htl:ts.length=r.n) {hs:List Int} {Hs:List (List Nat→Prop)} (hh:lQB w gh hs) (hgh:gh∉gf :: B.own) (hH:HldS S hs Hs) (h4:hs.length≤4) {f:Int} {Φ:List Nat→Prop} (hΦ:Rep S f 4 Φ) (hl:S.next+33900000<lim) :
  Calls prog 264 #[.pointer (some ⟨bb,0,none⟩),.slice (some ⟨gf,0,none⟩) fs.length cf,ruV ρ (some ⟨gt,0,none⟩) ts.length tc la ln lc (some ⟨gh,0,none⟩) hs.length ch,.int .i64 f] w fun e w'=>e=.returned (.tuple #[])∧∃ fs' S',EngS w' B S'∧lQB w' gf fs'∧aQA (gf :: B.own) w w'∧Ext S S'∧S'.next≤S.next+33800000∧FndS S' rs fs' (upX Xs ρ (bQK ts (fun ν=>Φ ν∧allH Hs hs.length ν))):=by
 have h6:=h.few;have hρ:ρ<rs.length:=(List.getElem?_eq_some_iff.1 hr).1;have hρf:ρ<fs.length:=by rw [hf.1];exact hρ
 have hρI:(ρ:Int)<fs.length:=by omega
 have hn3:=h.cols r (List.mem_of_getElem? hr);have hgtB:gt∉B.own:=fun q=>hgt (List.mem_cons_of_mem _ q);have hghB:gh∉B.own:=fun q=>hgh (List.mem_cons_of_mem _ q);have kA:=aQA.alloc [] w (.cells #[.int .i64 (ρ:Int),.slice (some ⟨gt,0,none⟩) ts.length tc,.slice la ln lc,.slice (some ⟨gh,0,none⟩) hs.length ch] 295);have hA:=cQA.new w #[.int .i64 (ρ:Int),.slice (some ⟨gt,0,none⟩) ts.length tc,.slice la ln lc,.slice (some ⟨gh,0,none⟩) hs.length ch] 295;have Hl:=hide hl;have Hfr:=hide (fun j (hj:w.heap.size≤j)=>h.eng.sat.fresh hj);have Htl:=hide htl;unfold ruV;have hbA:=h.keeps0 kA;have hrA:=hrow.keepsE kA (by simp);have htA:=htr.keeps kA (by simp);have hhA:=hh.keepsE kA (by simp);have hgl:=hrow.lt;generalize hWA:w.alloc (.cells #[.int .i64 (ρ:Int),.slice (some ⟨gt,0,none⟩) ts.length tc,.slice la ln lc,.slice (some ⟨gh,0,none⟩) hs.length ch] 295)=WA at *;have a0:=hA.cell 0;have a1:=hA.cell 1;have a3:=hA.cell 3;simp at a0 a1 a3;clear hl htl;go_enter func264,ntmps264
 go_wp2_with fail
 clear hWA a0 a1 a3;go_loopw [3,14] (fun x y wr=>∃ (j:Nat) (q:Int) (S':ST),x=.int .i64 q∧y=.int .i64 j∧j≤hs.length∧EngS wr B S'∧aQA B.own WA wr∧Ext S S'∧S'.next≤S.next+4095 * j∧Rep S' q 4 (fun ν=>Φ ν∧allH Hs j ν)) (fun _ y _=>((hs.length:Int) - intOf y).toNat)
 case atStart=>exact ⟨0,f,S,rfl,rfl,by omega,hbA.eng,aQA.refl _ _,Ext.refl S,by omega,hΦ.iff fun ν _=>⟨fun q=>⟨q,fun i H hi=>by omega⟩,fun q=>q.1⟩⟩
 case round=>
  obtain ⟨j,q,S',rfl,rfl,hj,hE,hk,hx,hn,hq⟩:=hrel;have Hn:=hide hn;clear hn;have hbr:=hbA.store hk hE;have g4:=hbr.bs.cell;by_cases hjl:j<hs.length
  ·have hjI:(j:Int)<hs.length:=(by omega);have hhr:=hhA.keepsE hk hghB;obtain ⟨y,hy⟩:∃ y,hs[j]?=some y:=⟨_,List.getElem?_eq_getElem hjl⟩;obtain ⟨H,hHj⟩:∃ H,Hs[j]?=some H:=⟨_,List.getElem?_eq_getElem (by rw [←hH.1];exact hjl)⟩;have g0:=hhr.cell hy;have hy4:=(hH.2 j y H hy hHj).ext hx h.eng.wf hE.wf;have hand:=hide (and_E hE (f:=q) (g:=y) ⟨hq.1,hq.2⟩ ⟨hy4.1,hy4.2⟩ (by have:=Hl.out;have:=Hn.out;omega));have Hst:=hide (allH_step hHj);clear hy hHj hy4;go_wp2_with fail
   refine hand.out.mono ?_;rintro e W5 ⟨t,S5,rfl,hE5,k5,x5,n5,hr5⟩;have Hn5:=hide n5;clear n5 hand;go_wp2_with fail
   go_roundw
   ·exact ⟨j+1,t,S5,rfl,by simp,by omega,hE5,hk.trans k5,hx.trans x5,by have:=Hn.out;have:=Hn5.out;push_cast;omega,hr5.1,fun σ=>by rw [hr5.2];exact ⟨fun hh=>⟨hh.1.1,(Hst.out _).2 ⟨hh.1.2,hh.2⟩⟩,fun hh=>⟨⟨hh.1,((Hst.out _).1 hh.2).1⟩,((Hst.out _).1 hh.2).2⟩⟩⟩
   ·simp only [intOf];omega
  ·have hjI:¬ (j:Int)<hs.length:=(by omega);have e:j=hs.length:=(by omega);subst e;have hAr:=hA.keeps hk (Hfr.out _ (Nat.le_refl _));have htr':=htA.keeps hk hgtB;have hrr:=hrA.keepsE hk hgf;obtain ⟨y,hy⟩:∃ y,fs[ρ]?=some y:=⟨_,List.getElem?_eq_getElem hρf⟩;have a0:=hAr.cell 0;have a1:=hAr.cell 1;simp at a0 a1;have g0:=hrr.cell hy;have hhd:=hide (fun (W:World) (k:aQA [] wr W)=>heads_R (c:=tc) (ρ:=(ρ:Int)) (hE.keeps0 k) (hbr.bs.keeps k (by simp)) hgtB (htr'.keeps k (by simp)) htm (by rw [Htl.out];exact hn3) hq (by have:=Hl.out;have:=Hn.out;omega));have hyX:=(hf.2 ρ r y hr hy).ext hx h.eng.wf hE.wf;have hnz:w.heap.size≠gf:=by omega
   have h7:=hide (fun (W7:World) (k:aQA B.own wr.drew W7) (v:Value)=>
    let hb7:=(hbr.bs.keeps (aQA.drew [] wr) (by simp)).own k;let hA7:=(hAr.keeps (aQA.drew [] wr) (by simp)).keeps k (Hfr.out _ (Nat.le_refl _));let hr7:=(hrr.keepsE (aQA.drew [] wr) (by simp)).keepsE k hgf;let kS:=aQA.setCell W7 ⟨gf,ρ,none⟩ v;And.intro hb7.cell <| And.intro (show W7.cell? ⟨w.heap.size,0,none⟩=some (.int .i64 (ρ:Int)) from by have:=hA7.cell 0;simpa using this) <| And.intro (show W7.cell? ⟨w.heap.size,1,none⟩=some (.slice (some ⟨gt,0,none⟩) ts.length tc) from by have:=hA7.cell 1;simpa using this) <| And.intro (hr7.cell hy) <| And.intro (hr7.frozenE ρ) <|
    And.intro (hb7.keeps kS (by simpa using Ne.symm hgb)).cell <| And.intro (show (W7.setCell ⟨gf,ρ,none⟩ v).cell? ⟨w.heap.size,0,none⟩=some (.int .i64 (ρ:Int)) from by have:=(hA7.keeps kS (by simpa using hnz)).cell 0;simpa using this) (show (W7.setCell ⟨gf,ρ,none⟩ v).cell? ⟨w.heap.size,1,none⟩=some (.slice (some ⟨gt,0,none⟩) ts.length tc) from by have:=(hA7.keeps kS (by simpa using hnz)).cell 1;simpa using this))
   have Hy:=hide hy;have Hr:=hide hr;clear hy hr;go_wp2_with fail
   go_region_law (first
    | (refine kQA rfl 74 _ _ rfl _ func74 (by kernel_rfl) (by kernel_rfl) [.pointer (some ⟨bb,0,none⟩),.int .i64 q,.agg #[.int .i64 (ρ:Int),.slice (some ⟨gt,0,none⟩) ts.length tc]] rfl ?_
       refine (hhd.out _ (aQA.drew [] _)).mono ?_;rintro e W5 ⟨t,S5,rfl,hE5,k5,x5,n5,hr5⟩
       obtain ⟨b0,b1,b2,b3,b4,_⟩:=h7.out W5 k5 undef)
    | (refine kQA rfl 73 _ _ rfl _ func73 (by kernel_rfl) (by kernel_rfl) [.pointer (some ⟨B.b,0,none⟩),.int .i64 y,.int .i64 t] rfl ?_
       refine (or_E hE5 (f:=y) (g:=t) (RepB.ext ⟨hyX.1,hyX.2⟩ x5 hE.wf hE5.wf) hr5 (by have:=Hl.out;have:=Hn.out;omega)).mono ?_;rintro e W6 ⟨t6,S6,rfl,hE6,k6,x6,n6,hr6⟩
       obtain ⟨c0,c1,c2,c3,c4,_⟩:=h7.out W6 (k5.trans k6) undef))
   all_goals
    have kS:=aQA.setCell W6 ⟨gf,ρ,none⟩ (.int .i64 t6);have hrS:=((hrr.keepsE (aQA.drew [] wr) (by simp)).keepsE (k5.trans k6) hgf).setE ρ t6;have hES:=hE6.keeps kS (fun z hz hm=>hgf (by simp only [List.mem_singleton] at hm;rw [←hm];exact hz));go_wp2_with fail
    go_end0
    refine ⟨rfl,fs.set ρ t6,S6,hES,hrS,((((kA.mono (by simp)).trans (hk.mono (fun z hz=>List.mem_cons_of_mem _ hz))).trans ((aQA.drew [] wr).mono (by simp))).trans ((k5.trans k6).mono (fun z hz=>List.mem_cons_of_mem _ hz))).trans (kS.mono (by simp)),hx.trans (x5.trans x6),by have:=Hn.out;omega,by rw [List.length_set];exact hf.1,fun i q' z hq' hz=>?_⟩;rw [List.getElem?_set] at hz;unfold upX;by_cases e:ρ=i
    ·subst e;rw [if_pos rfl,if_pos hρf] at hz;cases hz;rw [Hr.out] at hq';cases hq';refine ⟨hr6.1,fun σ=>?_⟩;rw [hr6.2];simp only [if_true];rw [←Htl.out];exact Iff.rfl
    ·rw [if_neg e] at hz;refine (((hf.2 i q' z hq' hz).ext (hx.trans (x5.trans x6)) h.eng.wf hE6.wf)).iff fun l _=>?_;rw [if_neg (fun q=>e q.symm)]
end
section
open Go.RowKit
theorem mul64_lit (w:World) (n:Nat) (hn:n≤6):Calls prog 300 #[.int .u64 1,.int .u64 (n:Int)] w fun e w'=>e=.returned (.tuple #[.int .u64 0,.int .u64 (n:Int)])∧w' = w:=by
 have e1:bits BinOp.and IntKind.u64 1 4294967295=1:=by decide
 have h:n=0∨n=1∨n=2∨n=3∨n=4∨n=5∨n=6:=by omega
 have e2:bits BinOp.and IntKind.u64 (n:Int) 4294967295=n:=by rcases h with rfl | rfl | rfl | rfl | rfl | rfl | rfl <;> decide
 have e3:bits BinOp.and IntKind.u64 0 4294967295=0:=by decide
 have e4:(n:Int) / 4294967296=0:=by omega
 have e5:IntKind.u64.wrap 0=0:=by decide
 clear h;go_enter func300,ntmps300
 go_wp2
 go_ret2
 exact ⟨rfl,rfl⟩
theorem mul_lit (w:World) (n:Nat) (hn:n≤6):Calls prog 291 #[.int .u64 1,.int .u64 (n:Int)] w fun e w'=>e=.returned (.tuple #[.int .u64 0,.int .u64 (n:Int)])∧w' = w:=by
 have hm:=hide (mul64_lit w n hn);go_enter func291,ntmps291
 go_wp2_with fail
 refine hm.out.mono ?_;rintro e w' ⟨rfl,rfl⟩;go_wp2_with fail
 go_ret2
 exact ⟨rfl,rfl⟩
theorem splice_same {n off m:Nat} (z:Value) (h:off+m≤n):splice (List.replicate n z) off (List.replicate m z)=List.replicate n z:=by
 unfold splice;rw [List.take_replicate,List.drop_replicate,List.length_replicate,List.replicate_append_replicate,List.replicate_append_replicate];congr 1
 omega
theorem run_tailK (b k n:Nat) (h:k<n) (w:World):(Instr.slice 40 (.slice (some ⟨b,0,none⟩) n n) (some (.int .i64 (k:Int))) none none).run prog w=.ok (.slice (some ⟨b,k,none⟩) (n - k) (n - k)) w:=by
 rw [run_slice_l (P:=prog) w 40 _ _ _ (by kernel_rfl) .i64 k (by omega) (by omega)];have:¬ n=k:=by omega
 simp [go_sem,sliced,this,Addr.add];intro h;exact h.symm
theorem made_rep (n:Nat):madeCells #[.int .i64 0] n=(List.replicate n (Value.int .i64 0)).toArray:=by
 have:=toList_madeCells_one (.int .i64 0) n;rw [←this]
def RepTo (w:World) (n:Nat) (e:Ending) (w':World):Prop:=∃ g c,e=.returned (.slice (some ⟨g,0,none⟩) n c)∧w.heap.size≤g∧lQB w' g (List.replicate n 0)∧aQA [] w w'
theorem repeat_calls {w:World} {gx cx n:Nat} (hx:w.cell? ⟨gx,0,none⟩=some (.int .i64 0)) (hgx:gx<w.heap.size) (hn:n≤6):Calls prog 263 #[.slice (some ⟨gx,0,none⟩) 1 cx,.int .i64 (n:Int)] w (RepTo w n):=by
 have hm:=hide (mul_lit w n hn);have hmk:=run_makeE w n (by omega);rw [made_rep] at hmk;have hsz:(prog.info? 3).map (·.size)=some 1:=by kernel_rfl
 have hblk:(w.alloc (.cells (List.replicate n (Value.int .i64 0)).toArray 3)).heap[w.heap.size]?=some (.cells (List.replicate n (Value.int .i64 0)).toArray 3 (0,0)):=World.alloc_heap_new w _;have hbel:Go.RowKit.Below w.heap.size w (w.alloc (.cells (List.replicate n (Value.int .i64 0)).toArray 3)):=(aQA.alloc [] w _).below (Nat.le_refl _) (by simp);have hsrc:∀ j v,(List.replicate (Nat.min 1 n) (Value.int .i64 0))[j]?=some v→(w.alloc (.cells (List.replicate n (Value.int .i64 0)).toArray 3)).cell? ((⟨gx,0,none⟩:Addr).add j)=some v:=fun j v hj=>by
  rw [List.getElem?_replicate] at hj;split at hj
  ·rename_i hlt;cases hj;have e:j=0:=by have:Nat.min 1 n≤1:=Nat.min_le_left _ _;omega
   subst e;rw [Addr.add_lit,cQF (aQA.alloc [] w _) hgx (by simp)];exact hx
  ·cases hj
 have hone:∀ m,∀ v∈List.replicate m (Value.int .i64 0),v.oneCell' = true:=fun m v hv=>by rw [List.eq_of_mem_replicate hv];rfl
 have Hm1:Hid (Nat.min 1 n≤n∧Nat.min 1 n≤1∧(1≤n→Nat.min 1 n=1)):=⟨Nat.min_le_right _ _,Nat.min_le_left _ _,fun h=>Nat.min_eq_left h⟩;generalize hmm:Nat.min 1 n=m1 at hsrc Hm1;have Hmm:=hide hmm;clear hmm;go_enter func263,ntmps263
 go_wp2_with fail
 refine hm.out.mono ?_;rintro e w' ⟨rfl,rfl⟩;rename World=>w;generalize hW:w.alloc (.cells (List.replicate n (Value.int .i64 0)).toArray 3)=W at *;go_wp2_with (refine wpList_copy_splice rfl _ _ 40 40 rfl 3 underlying40 hsz (some ⟨w.heap.size,0,none⟩) (some ⟨gx,0,none⟩) n n 1 cx rfl rfl w.heap.size 0 (List.replicate n (Value.int .i64 0)) 3 hblk (List.replicate m1 (Value.int .i64 0)) (by rw [List.length_replicate,Hmm.out]) (fun _=>⟨rfl,_,rfl,hsrc⟩) (by rw [List.length_replicate,List.length_replicate];have:=Hm1.out;omega) (hone _) w.heap.size w hbel (Nat.le_refl _) ?_)
 intro W1 hb1 hl1;rw [splice_same _ (by have:=Hm1.out;omega)] at hb1;have hb1':Hid (W1.heap[w.heap.size]?=some (.cells (List.replicate n (Value.int .i64 0)).toArray 3 (0,0))):=hb1;clear hb1 hsrc hbel hblk hmk hW hm hx;go_wp2_with fail
 go_loopw [8] (fun x wr=>∃ k:Nat,x=.int .i64 k∧k≤n∧(1≤n→1≤k)∧Hid (wr.heap[w.heap.size]?=some (.cells (List.replicate n (Value.int .i64 0)).toArray 3 (0,0)))∧Go.RowKit.Below w.heap.size w wr) (fun x _=>((n:Int) - intOf x).toNat)
 case atStart=>exact ⟨m1,rfl,by have:=Hm1.out;omega,by have:=Hm1.out;omega,hb1',hl1⟩
 case round=>
  obtain ⟨k,rfl,hkn,hk1,hbr,hlr⟩:=hrel;by_cases hlt:k<n
  ·have hltI:(k:Int)<n:=(by omega);have ht:=run_tailK w.heap.size k n hlt;have hh:=run_head w.heap.size k n n (by omega) (by omega);have hks:=hk1 (by omega);have hsrc:∀ j v,(List.replicate (Nat.min k (n - k)) (Value.int .i64 0))[j]?=some v→wr.cell? ((⟨w.heap.size,0,none⟩:Addr).add j)=some v:=fun j v hj=>by
    have hc:cQA wr w.heap.size (List.replicate n (Value.int .i64 0)).toArray:=⟨_,hbr.out⟩;rw [List.getElem?_replicate] at hj;split at hj
    ·rename_i hj';cases hj;have:Nat.min k (n - k)≤k:=Nat.min_le_left _ _;rw [Addr.add_lit,hc.cell,List.getElem?_toArray,List.getElem?_replicate,if_pos (by omega)]
    ·cases hj
   have Hm2:Hid (Nat.min k (n - k)≤n - k∧1≤Nat.min k (n - k)):=⟨Nat.min_le_right _ _,Nat.le_min.2 ⟨hks,by omega⟩⟩;generalize hmm:Nat.min k (n - k)=m2 at hsrc Hm2;have Hmm2:=hide hmm;have Hk1:=hide hk1;clear hmm hk1 hks;obtain ⟨W2,hrun,hb2,hl2⟩:∃ W2,(∀ ty,(Builtin.copy_ #[40,40] ty #[.slice (some ⟨w.heap.size,k,none⟩) (n - k) (n - k),.slice (some ⟨w.heap.size,0,none⟩) k n]).run prog wr.drew=.ok (.int .i64 (m2:Int)) W2)∧Hid (W2.heap[w.heap.size]?=some (.cells (List.replicate n (Value.int .i64 0)).toArray 3 (0,0)))∧Go.RowKit.Below w.heap.size w W2:=by
    have hr0:=fun ty=>run_copy_row (P:=prog) wr.drew 40 40 ty 3 w.heap.size k (n - k) (n - k) ⟨w.heap.size,0,none⟩ k n (List.replicate n (Value.int .i64 0)).toArray 3 (List.replicate m2 (Value.int .i64 0)) underlying40 hsz hbr.out (by rw [List.length_replicate,Hmm2.out]) hsrc (by simp;have:=Hm2.out;omega) (hone _);have erow:(List.replicate n (Value.int .i64 0)).toArray.toList.take k++List.replicate m2 (Value.int .i64 0)++(List.replicate n (Value.int .i64 0)).toArray.toList.drop (k+(List.replicate m2 (Value.int .i64 0)).length)=List.replicate n (Value.int .i64 0):=by
     have:=Hm2.out;simp only [List.take_replicate,List.drop_replicate,List.length_replicate,List.replicate_append_replicate];congr 1
     omega
    exact ⟨wr.drew.setRow w.heap.size (List.replicate n (Value.int .i64 0)).toArray,fun ty=>by rw [hr0 ty,erow,List.length_replicate];rfl,setRow_heap wr.drew w.heap.size _ _ 3 _ hbr.out,below_setRow (hlr.trans ((aQA.drew [] wr).below hlr.size (by simp))) (Nat.le_refl _) _⟩
   have hm6:(m2:Int)≤6:=by have:=Hm2.out;omega
   obtain ⟨km,hkm⟩:∃ km,k+m2=km:=⟨_,rfl⟩;have hwr:IntKind.i64.wrap ((k:Int)+(m2:Int))=(km:Int):=by rw [IntKind.wrap_i64];omega
   have Hkm:=hide hkm;have h0:=hbr.out;clear hkm hm6 hsrc hbr hlr h0;go_wp2_with fail
   go_region_held3 (fun _=>True) (exact trivial) (fail)
   all_goals
    go_wp2_with fail
    go_roundw
    ·exact ⟨km,rfl,by have:=Hm2.out;have:=Hkm.out;omega,fun h=>by have:=Hm2.out;have:=Hkm.out;omega,hb2,hl2⟩
    ·simp only [intOf];have:=Hm2.out;have:=Hkm.out;omega
  ·have hltI:¬ (k:Int)<n:=(by omega);have e:k=n:=(by omega);subst e;go_wp2_with fail
   go_ret
   refine ⟨w.heap.size,k,rfl,Nat.le_refl _,⟨(List.replicate k (Value.int .i64 0)).toArray,⟨3,hbr.out⟩,fun i x hx=>?_⟩,⟨hlr.os,hlr.tape,hlr.output,hlr.size,fun i hi _=>hlr.block i hi⟩⟩;rw [List.getElem?_replicate] at hx;split at hx
   ·rename_i hi;cases hx;rw [List.getElem?_toArray,List.getElem?_replicate,if_pos hi]
   ·cases hx
end
section
open Go.RowKit
structure CluX where
 c:iQA
 gt:Nat
 tc:Nat
 la:Option Addr
 lc:Nat
 lt:List (Nat×Nat)
structure LitAtE (w:World) (gl k:Nat) (l:yQA×Bool) (g c:Nat):Prop where
 rel:w.cell? ⟨gl,k * 3,none⟩=some (.int .i64 (l.1.rel:Int))
 tms:w.cell? ⟨gl,k * 3+1,none⟩=some (.slice (some ⟨g,0,none⟩) l.1.terms.length c)
 no:w.cell? ⟨gl,k * 3+2,none⟩=some (.bool l.2)
 row:TmRow w g l.1.terms
structure CluAt (w:World) (X:List Nat) (u:CluX):Prop where
 head:TmRow w u.gt u.c.head.terms
 headX:u.gt∉X
 lits:∀ (k:Nat) (l:yQA×Bool),u.c.lits[k]?=some l→∃ gl g c,u.la=some ⟨gl,0,none⟩∧gl<w.heap.size∧gl∉X∧g∉X∧LitAtE w gl k l g c
theorem LitAtE.keeps {w w':World} {gl k g c:Nat} {l:yQA×Bool} {T:List Nat} (h:LitAtE w gl k l g c) (kp:aQA T w w') (hl:gl<w.heap.size) (h1:gl∉T) (h2:g∉T):LitAtE w' gl k l g c:=
 ⟨by rw [cQF kp hl h1];exact h.rel,by rw [cQF kp hl h1];exact h.tms,by rw [cQF kp hl h1];exact h.no,h.row.keeps kp h2⟩
theorem CluAt.keeps {w w':World} {X T:List Nat} {u:CluX} (h:CluAt w X u) (k:aQA T w w') (hT:∀ j∈T,j∈X∨w.heap.size≤j):CluAt w' X u:=by
 have ne:∀ {j},j∉X→j<w.heap.size→j∉T:=fun h1 h2 hm=>(hT _ hm).elim h1 (fun q=>by omega);refine ⟨h.head.keeps k (ne h.headX h.head.1),h.headX,fun i l hi=>?_⟩;obtain ⟨gl,g,c,h1,h2,h3,h4,h5⟩:=h.lits i l hi;exact ⟨gl,g,c,h1,Nat.lt_of_lt_of_le h2 k.size,h3,h4,h5.keeps k h2 (ne h3 h2) (ne h4 h5.row.1)⟩
theorem CluAt.apart {w:World} {X Y:List Nat} {u:CluX} (h:CluAt w X u) (hY:∀ j∈Y,j∈X∨w.heap.size≤j):CluAt w Y u:=by
 have ne:∀ {j},j∉X→j<w.heap.size→j∉Y:=fun h1 h2 hm=>(hY _ hm).elim h1 (fun q=>by omega);refine ⟨h.head,ne h.headX h.head.1,fun i l hi=>?_⟩;obtain ⟨gl,g,c,h1,h2,h3,h4,h5⟩:=h.lits i l hi;exact ⟨gl,g,c,h1,h2,ne h3 h2,ne h4 h5.row.1,h5⟩
structure AtOk (rs:List RelX) (a:yQA):Prop where
 rel:∃ r,rs[a.rel]?=some r∧a.terms.length=r.n∧0<r.n
 tms:∀ t∈a.terms,TmOk t
structure ClOk (rs:List RelX) (c:iQA):Prop where
 head:AtOk rs c.head
 lits:∀ l∈c.lits,AtOk rs l.1
 few:c.lits.length≤4
theorem AtOk.like {rs rs':List RelX} {a:yQA} (h:AtOk rs a) (k:nQC rs rs'):AtOk rs' a:=by
 obtain ⟨r,h1,h2,h3⟩:=h.rel;obtain ⟨r',e1,e2⟩:=k.2 _ r h1;exact ⟨⟨r',e1,by rw [h2,e2.n],by rw [e2.n];exact h3⟩,h.tms⟩
theorem ClOk.like {rs rs':List RelX} {c:iQA} (h:ClOk rs c) (k:nQC rs rs'):ClOk rs' c:=⟨h.head.like k,fun l hl=>(h.lits l hl).like k,h.few⟩
structure RuX extends CluX where
 gh:Nat
 ch:Nat
 hs:List Int
structure RuC (cs:Array Value) (o:Nat) (u:RuX):Prop where
 c0:cs[o]?=some (.int .i64 (u.c.head.rel:Int))
 c1:cs[o+1]?=some (.slice (some ⟨u.gt,0,none⟩) u.c.head.terms.length u.tc)
 c2:cs[o+2]?=some (.slice u.la u.c.lits.length u.lc)
 c3:cs[o+3]?=some (.slice (some ⟨u.gh,0,none⟩) u.hs.length u.ch)
structure vQH (w:World) (X:List Nat) (gu:Nat) (us:List RuX):Prop where
 cells:0<us.length→∃ cs,cQA w gu cs∧∀ (i:Nat) (u:RuX),us[i]?=some u→RuC cs (i * 4) u
 guX:0<us.length→gu∉X∧∀ u∈us,gu≠u.gh
 clu:∀ u∈us,CluAt w (us.map (·.gh)++X) u.toCluX
 hld:∀ u∈us,lQB w u.gh u.hs∧u.gh∉X∧u.hs.length=u.c.lits.length
 nodup:(us.map (·.gh)).Nodup
theorem vQH.keeps {w w':World} {X T:List Nat} {gu:Nat} {us:List RuX} (h:vQH w X gu us) (k:aQA T w w') (hT:∀ j∈T,j∈X∨w.heap.size≤j):vQH w' X gu us:=by
 have ne:∀ {j},j∉X→j<w.heap.size→j∉T:=fun h1 h2 hm=>(hT _ hm).elim h1 (fun q=>by omega);refine ⟨fun h0=>?_,h.guX,fun u hu=>(h.clu u hu).keeps k (fun j hj=>(hT j hj).imp (fun q=>List.mem_append.2 (.inr q)) id),fun u hu=>?_,h.nodup⟩
 ·obtain ⟨cs,h1,h2⟩:=h.cells h0;exact ⟨cs,h1.keeps k (ne (h.guX h0).1 h1.lt),h2⟩
 ·obtain ⟨h1,h2,h3⟩:=h.hld u hu;exact ⟨h1.keepsE k (ne h2 h1.lt),h2,h3⟩
theorem vQH.apart {w:World} {X Y:List Nat} {gu:Nat} {us:List RuX} (h:vQH w X gu us) (hY:∀ j∈Y,j∈X∨w.heap.size≤j):vQH w Y gu us:=by
 have ne:∀ {j},j∉X→j<w.heap.size→j∉Y:=fun h1 h2 hm=>(hY _ hm).elim h1 (fun q=>by omega);refine ⟨h.cells,fun h0=>⟨?_,(h.guX h0).2⟩,fun u hu=>(h.clu u hu).apart (fun j hj=>?_),fun u hu=>?_,h.nodup⟩
 ·obtain ⟨cs,h1,h2⟩:=h.cells h0;exact ne (h.guX h0).1 h1.lt
 ·rcases List.mem_append.1 hj with q | q
  ·exact .inl (List.mem_append.2 (.inl q))
  ·exact (hY j q).imp (fun q=>List.mem_append.2 (.inr q)) id
 ·obtain ⟨h1,h2,h3⟩:=h.hld u hu;exact ⟨h1,ne h2 h1.lt,h3⟩
def HolS (S:ST) (us:List RuX) (HS:Nat→List (List Nat→Prop)):Prop:=∀ (i:Nat) (u:RuX),us[i]?=some u→HldS S u.hs (HS i)
theorem HolS.ext {S S':ST} {us:List RuX} {HS:Nat→List (List Nat→Prop)} (h:HolS S us HS) (x:Ext S S') (hw:WF S) (hw':WF S'):HolS S' us HS:=fun i u hi=>(h i u hi).ext x hw hw'
def qQK (us:List RuX) (HS:Nat→List (List Nat→Prop)) (j i:Nat) (l:List Nat):Prop:=∃ p u,p<j∧us[p]?=some u∧u.c.head.rel=i∧bQK u.c.head.terms (fun ν=>allH (HS p) u.hs.length ν) l
theorem FndS.iff {S:ST} {rs:List RelX} {fs:List Int} {Xs Ys:Nat→List Nat→Prop} (h:FndS S rs fs Xs) (hi:∀ i l,Xs i l↔Ys i l):FndS S rs fs Ys:=⟨h.1,fun i r f h1 h2=>(h.2 i r f h1 h2).iff fun l _=>hi i l⟩
theorem bringsTo_step {us:List RuX} {HS:Nat→List (List Nat→Prop)} {j:Nat} {u:RuX} (hu:us[j]?=some u) (i:Nat) (l:List Nat):upX (qQK us HS j) u.c.head.rel (bQK u.c.head.terms (fun ν=>True∧allH (HS j) u.hs.length ν)) i l↔qQK us HS (j+1) i l:=by
 unfold upX;have hb:bQK u.c.head.terms (fun ν=>True∧allH (HS j) u.hs.length ν) l↔bQK u.c.head.terms (fun ν=>allH (HS j) u.hs.length ν) l:=by unfold bQK;simp
 constructor
 ·split
  ·rename_i e;subst e;rintro (⟨p,v,h1,h2,h3,h4⟩ | h)
   ·exact ⟨p,v,by omega,h2,h3,h4⟩
   ·exact ⟨j,u,by omega,hu,rfl,hb.1 h⟩
  ·rintro ⟨p,v,h1,h2,h3,h4⟩;exact ⟨p,v,by omega,h2,h3,h4⟩
 ·rintro ⟨p,v,h1,h2,h3,h4⟩;by_cases e:p<j
  ·split
   ·rename_i e2;subst e2;exact .inl ⟨p,v,e,h2,h3,h4⟩
   ·exact ⟨p,v,e,h2,h3,h4⟩
  ·have:p=j:=(by omega);subst this;rw [hu] at h2;cases h2;rw [if_pos h3.symm];exact .inr (hb.2 h4)
end
section
open Go.RowKit
theorem Bse.fresh {w w':World} {bb gr cr:Nat} {B:SB} {S S':ST} {rs:List RelX} {x0 x1 x3:Value} {T:List Nat} (h:Bse w bb B S gr cr rs x0 x1 x3) (k:aQA T w w') (hT:∀ j∈T,j∈B.own∨w.heap.size≤j) (hE:EngS w' B S'):Bse w' bb B S' gr cr rs x0 x1 x3:=by
 have ne:∀ {j},j∉B.own→j<w.heap.size→j∉T:=fun h1 h2 hm=>(hT _ hm).elim h1 (fun q=>by omega);obtain ⟨cs,h1,h2⟩:=h.rel;exact ⟨h.cells.keeps k (ne h.bbB h.cells.lt),hE,⟨cs,h1.keeps k (ne h.grB h1.lt),h2⟩,fun r hr=>(h.maps r hr).kept k (ne (h.rmB r hr) (h.maps r hr).lt),h.bbB,h.grB,h.rmB,h.bbgr,h.bbrm,h.grrm,h.nodup,h.few,h.cols⟩
theorem eQC {B:SB} {gr:Nat} {rs:List RelX} {j:Nat} (h:j∈B.own):j∈ftp B gr rs:=by simp [ftp,h]
def FndTo (B:SB) (rs:List RelX) (w:World) (S:ST) (Xs:Nat→List Nat→Prop) (c:Int) (e:Ending) (w':World):Prop:=
 ∃ g cf fs S',e=.returned (.slice (some ⟨g,0,none⟩) rs.length cf)∧w.heap.size≤g∧lQB w' g fs∧EngS w' B S'∧aQA B.own w w'∧Ext S S'∧S'.next≤S.next+c∧FndS S' rs fs Xs
theorem firstR_calls {w:World} {bb gr cr:Nat} {B:SB} {S:ST} {rs:List RelX} {x0 x1 x3:Value} (h:Bse w bb B S gr cr rs x0 x1 x3) {Fs:Nat→List Nat→Prop} {rks:Nat→List Nat→Option Nat} (ha:AllS S rs Fs rks) {gu uc:Nat} {ua:Option Addr} {us:List RuX} (hua:0<us.length→ua=some ⟨gu,0,none⟩) (hu:vQH w (ftp B gr rs) gu us) (hok:∀ u∈us,ClOk rs u.c) {HS:Nat→List (List Nat→Prop)} (hH:HolS S us HS) (h52:us.length≤52) (hl:S.next+1760000000<lim) :
  Calls prog 217 #[.pointer (some ⟨bb,0,none⟩),.slice ua us.length uc] w (FndTo B rs w S (outX (qQK us HS us.length) rks rs.length) 1760000000):=by
 have h6:=h.few;have kA:=aQA.alloc [] w (.cells #[.int .i64 0] 3);have hA:=cQA.new w #[.int .i64 0] 3;have zA:=dQA w (.cells #[.int .i64 0] 3);have hbA:=h.keeps0 kA;have c2:=hbA.cells.cell 2;simp at c2;have hA0:(w.alloc (.cells #[.int .i64 0] 3)).cell? ⟨w.heap.size,0,none⟩=some (.int .i64 0):=by rw [hA.cell];rfl
 have hrep:=hide (repeat_calls (cx:=1) (n:=rs.length) hA0 (by omega) h6);have Hl:=hide hl;clear hl hA0;generalize hWA:w.alloc (.cells #[.int .i64 0] 3)=WA at *;go_enter func217,ntmps217
 go_wp2_with fail
 refine hrep.out.mono ?_;rintro e W1 ⟨g,cf,rfl,hg,hrow,k1⟩;have hg':w.heap.size≤g:=by omega
 have k01:=kA.trans k1;have Hk01:=hide k01;have hE1:=h.eng.keeps0 k01
 have hz0:FndS S rs (List.replicate rs.length 0) (qQK us HS 0):=⟨by simp,fun i r f h1 h2=>by
  rw [List.getElem?_replicate] at h2;split at h2
  ·cases h2;exact ⟨yQE S,fun σ=>⟨fun q=>absurd q (by simp [eQB]),fun ⟨p,u,hp,_⟩=>absurd hp (by omega)⟩⟩
  ·cases h2⟩
 clear hWA c2 hbA hrep hA zA kA k1 k01;go_wp2_with fail
 go_loopw [17] (fun y wr=>∃ (j:Nat) (fs:List Int) (S1:ST),y=.int .i64 j∧j≤us.length∧EngS wr B S1∧lQB wr g fs∧aQA (g :: B.own) w wr∧Ext S S1∧S1.next≤S.next+33800000 * j∧FndS S1 rs fs (qQK us HS j)) (fun y _=>((us.length:Int) - intOf y).toNat)
 case atStart=>exact ⟨0,_,S,rfl,by omega,hE1,hrow,Hk01.out.mono (by simp),Ext.refl S,by omega,hz0⟩
 case round=>
  obtain ⟨j,fs,S1,rfl,hj,hE,hr,hk,hx,hn,hf⟩:=hrel;have Hn:=hide hn;clear hn hrow hE1 hz0;have hkT:∀ j∈g :: B.own,j∈B.own∨w.heap.size≤j:=fun j hj=>by
   rcases List.mem_cons.1 hj with rfl | hj
   ·exact .inr hg'
   ·exact .inl hj
  have hbr:=h.fresh hk hkT hE;have hgB:g∉B.own:=h.eng.sat.fresh hg';have hgb:g≠bb:=by have:=h.cells.lt;omega
  by_cases hjl:j<us.length
  ·have hjI:(j:Int)<us.length:=(by omega);obtain ⟨u,huj⟩:∃ u,us[j]?=some u:=⟨_,List.getElem?_eq_getElem hjl⟩;have hum:=List.mem_of_getElem? huj;have hur:=hu.keeps hk (fun j hj=>(hkT j hj).imp eQC id);obtain ⟨cs,hc,hcs⟩:=hur.cells (by omega);have hc4:=hcs j u huj;have q0:wr.cell? ⟨gu,j * 4,none⟩=some (.int .i64 (u.c.head.rel:Int)):=by rw [hc.cell];exact hc4.c0
   have q1:wr.cell? ⟨gu,j * 4+1,none⟩=some (.slice (some ⟨u.gt,0,none⟩) u.c.head.terms.length u.tc):=by rw [hc.cell];exact hc4.c1
   have q2:wr.cell? ⟨gu,j * 4+2,none⟩=some (.slice u.la u.c.lits.length u.lc):=by rw [hc.cell];exact hc4.c2
   have q3:wr.cell? ⟨gu,j * 4+3,none⟩=some (.slice (some ⟨u.gh,0,none⟩) u.hs.length u.ch):=by rw [hc.cell];exact hc4.c3
   have hclu:=hur.clu u hum;obtain ⟨hhr,hhX,hhl⟩:=hur.hld u hum;have hcok:=hok u hum;obtain ⟨r,hr1,hr2,_⟩:=hcok.head.rel;have hgtX:u.gt∉g :: B.own:=xQA (by have:=(hu.clu u hum).head.1;omega) (fun q=>hclu.headX (List.mem_append.2 (.inr (eQC q))));have hghX:u.gh∉g :: B.own:=xQA (by have:=(hu.hld u hum).1.lt;omega) (fun q=>hhX (eQC q));have kC:=aQA.alloc [] wr (.cells #[.int .i64 (u.c.head.rel:Int),.slice (some ⟨u.gt,0,none⟩) u.c.head.terms.length u.tc,.slice u.la u.c.lits.length u.lc,.slice (some ⟨u.gh,0,none⟩) u.hs.length u.ch] 295);have hC:=cQA.new wr #[.int .i64 (u.c.head.rel:Int),.slice (some ⟨u.gt,0,none⟩) u.c.head.terms.length u.tc,.slice u.la u.c.lits.length u.lc,.slice (some ⟨u.gh,0,none⟩) u.hs.length u.ch] 295;have hfd:=hide (find_calls (cf:=cf) (tc:=u.tc) (la:=u.la) (ln:=u.c.lits.length) (lc:=u.lc) (ch:=u.ch) (hbr.keeps0 kC) (hr.keepsE kC (by simp)) hgB hgb hf (hclu.head.keeps kC (by simp)) hgtX hcok.head.tms hr1 hr2 (hhr.keepsE kC (by simp)) hghX ((hH j u huj).ext hx h.eng.wf hE.wf) (by rw [hhl];exact hcok.few) (f:=1) (Φ:=fun _=>True) ⟨qQJ S1,fun σ=>by simp [pQC]⟩ (by have:=Hl.out;have:=Hn.out;omega));simp only [ruV,hf.1] at hfd;have Hst:=hide (bringsTo_step (HS:=HS) huj);have hua':=hua (by omega);clear hcs hc4 hc hclu hhr hhX hhl hcok hr1 hr2 hgtX hghX hur;generalize hWC:wr.alloc (.cells #[.int .i64 (u.c.head.rel:Int),.slice (some ⟨u.gt,0,none⟩) u.c.head.terms.length u.tc,.slice u.la u.c.lits.length u.lc,.slice (some ⟨u.gh,0,none⟩) u.hs.length u.ch] 295)=WC at *;have d0:=hC.cell 0;have d1:=hC.cell 1;have d2:=hC.cell 2;have d3:=hC.cell 3;simp at d0 d1 d2 d3;subst hua';go_wp2_with fail
   refine hfd.out.mono ?_;rintro e W5 ⟨rfl,fs',S5,hE5,hr5,k5,x5,n5,hf5⟩;have Hn5:=hide n5;clear n5 hfd q0 q1 q2 q3 d0 d1 d2 d3 hWC;go_wp2_with fail
   go_roundw
   ·exact ⟨j+1,fs',S5,by simp,by omega,hE5,hr5,(hk.trans (kC.mono (by simp))).trans k5,hx.trans x5,by have:=Hn.out;have:=Hn5.out;push_cast;omega,hf5.iff Hst.out⟩
   ·simp only [intOf];omega
  ·have hjI:¬ (j:Int)<us.length:=(by omega);have e:j=us.length:=(by omega);subst e
   have hwo:=hide (without_calls (cf:=cf) hbr (ha.ext hx h.eng.wf hE.wf) hr (fun q=>by
    simp only [ftp,List.mem_cons,List.mem_append,List.mem_map] at q;rcases q with q | ⟨x,hx,q⟩ | q
    ·obtain ⟨cs,hc,_⟩:=h.rel;have:=hc.lt;omega
    ·have:=(h.maps x hx).lt;omega
    ·exact hgB q) hgb hf (by have:=Hl.out;have:=Hn.out;omega))
   rw [hf.1] at hwo;go_wp2_with fail
   refine hwo.out.mono ?_;rintro e W5 ⟨rfl,fs',S5,hE5,hr5,k5,x5,n5,hf5⟩;go_wp2_with fail
   go_ret
   exact ⟨g,cf,fs',S5,rfl,hg',hr5,hE5,(hk.trans k5).drop hg',hx.trans x5,by have:=Hn.out;omega,hf5⟩
end
section
open Go.RowKit
structure KlC (cs:Array Value) (o:Nat) (k:CluX):Prop where
 c0:cs[o]?=some (.int .i64 (k.c.head.rel:Int))
 c1:cs[o+1]?=some (.slice (some ⟨k.gt,0,none⟩) k.c.head.terms.length k.tc)
 c2:cs[o+2]?=some (.slice k.la k.c.lits.length k.lc)
structure KlsAt (w:World) (X:List Nat) (ka:Option Addr) (ks:List CluX):Prop where
 cells:0<ks.length→∃ gk cs,ka=some ⟨gk,0,none⟩∧gk∉X∧cQA w gk cs∧∀ (i:Nat) (k:CluX),ks[i]?=some k→KlC cs (i * 3) k
 clu:∀ k∈ks,CluAt w X k
theorem KlsAt.keeps {w w':World} {X T:List Nat} {ka:Option Addr} {ks:List CluX} (h:KlsAt w X ka ks) (k:aQA T w w') (hT:∀ j∈T,j∈X∨w.heap.size≤j):KlsAt w' X ka ks:=by
 refine ⟨fun h0=>?_,fun u hu=>(h.clu u hu).keeps k hT⟩;obtain ⟨gk,cs,h1,h2,h3,h4⟩:=h.cells h0;exact ⟨gk,cs,h1,h2,h3.keeps k (fun hm=>(hT _ hm).elim h2 (fun q=>by have:=h3.lt;omega)),h4⟩
def litH (rks:Nat→List Nat→Option Nat) (l:yQA×Bool) (ν:List Nat):Prop:=if l.2 then ¬ (rks l.1.rel (l.1.terms.map (tvR ν))).isSome=true else (rks l.1.rel (l.1.terms.map (tvR ν))).isSome=true
def iQH (rs:List RelX) (lay:Nat) (k:CluX):Bool:=decide (rQI rs k.c.head.rel=lay)
def ruC (u:RuX):List Value:=[.int .i64 (u.c.head.rel:Int),.slice (some ⟨u.gt,0,none⟩) u.c.head.terms.length u.tc,.slice u.la u.c.lits.length u.lc,.slice (some ⟨u.gh,0,none⟩) u.hs.length u.ch]
def ruCs (us:List RuX):List Value:=us.flatMap ruC
theorem ruCs_snoc (us:List RuX) (u:RuX):ruCs (us++[u])=ruCs us++ruC u:=by simp [ruCs]
theorem ruCs_at {us:List RuX} {i:Nat} {u:RuX} (h:us[i]?=some u) {q:Nat} (hq:q<4):(ruCs us)[i * 4+q]?=(ruC u)[q]?:=by
 induction us generalizing i with
 | nil=>simp at h
 | cons y us ih=>
  have e:ruCs (y :: us)=ruC y++ruCs us:=by simp [ruCs]
  have hl:(ruC y).length=4:=rfl;cases i with
  | zero=>simp at h;subst h;rw [e,List.getElem?_append_left (by omega)];congr 1;omega
  | succ i=>rw [e,List.getElem?_append_right (by omega),hl,show (i+1) * 4+q - 4=i * 4+q by omega];exact ih (by simpa using h)
theorem info295:(prog.info? 295).map (fun i=>(i.zero,i.size,i.bytes))=some (some (.agg #[.int .i64 0,.slice none 0 0,.slice none 0 0,.slice none 0 0]),4,80):=by kernel_rfl
theorem four_cellsE {W:World} {a b c d:Value} {t:TypeId}:∀ (j:Nat) (x:Value),[a,b,c,d][j]?=some x→(W.alloc (.cells #[a,b,c,d] t)).cell? ((⟨W.heap.size,0,none⟩:Addr).add j)=some x:=by
 intro j x hx;rw [Addr.add_lit,Nat.zero_add,(cQA.new W #[a,b,c,d] t).cell];match j with
 | 0=>simpa using hx
 | 1=>simpa using hx
 | 2=>simpa using hx
 | 3=>simpa using hx
 | j+4=>simp at hx
theorem HldS.snoc {S:ST} {hs:List Int} {Hs:List (List Nat→Prop)} (h:HldS S hs Hs) {y:Int} {H:List Nat→Prop} (hy:Rep S y 4 H):HldS S (hs++[y]) (Hs++[H]):=by
 refine ⟨by simp [h.1],fun i a b h1 h2=>?_⟩;rcases Nat.lt_trichotomy i hs.length with hi | hi | hi
 ·rw [List.getElem?_append_left hi] at h1;rw [List.getElem?_append_left (by rw [←h.1];exact hi)] at h2;exact h.2 i a b h1 h2
 ·subst hi;rw [List.getElem?_append_right (Nat.le_refl _)] at h1;rw [h.1,List.getElem?_append_right (Nat.le_refl _)] at h2;simp at h1 h2;subst h1 h2;exact hy
 ·rw [List.getElem?_eq_none (by simp;omega)] at h1;cases h1
structure Begun (w:World) (z:Nat) (S:ST) (rks:Nat→List Nat→Option Nat) (v:Value) (us:List RuX):Prop where
 row:w.ownsRow z 295 4 v us.length (ruCs us)
 hld:∀ u∈us,lQB w u.gh u.hs∧z≤u.gh∧u.hs.length=u.c.lits.length∧HldS S u.hs (u.c.lits.map (litH rks))∧∀ q,v.ownBlock=some q→q≠u.gh
 nodup:(us.map (·.gh)).Nodup
theorem Begun.keeps {w w':World} {z:Nat} {S S':ST} {rks:Nat→List Nat→Option Nat} {v:Value} {us:List RuX} {T:List Nat} (h:Begun w z S rks v us) (k:aQA T w w') (hT:∀ j∈T,j<z∨w.heap.size≤j) (x:Ext S S') (hw:WF S) (hw':WF S'):Begun w' z S' rks v us:=by
 have ne:∀ {j},z≤j→j<w.heap.size→j∉T:=fun h1 h2 hm=>by have:=hT _ hm;omega
 exact ⟨bQA h.row k (fun i hi=>ne (hQA h.row i hi).1 (World.ownsRow.lt h.row i hi).2),fun u hu=>by
  obtain ⟨h1,h2,h3,h4,h5⟩:=h.hld u hu
  exact ⟨h1.keepsE k (ne h2 h1.lt),h2,h3,h4.ext x hw hw',h5⟩,h.nodup⟩
def BegTo (B:SB) (rs:List RelX) (ks:List CluX) (lay:Nat) (rks:Nat→List Nat→Option Nat) (w:World) (S:ST) (e:Ending) (w':World):Prop:=
 ∃ v us S',e=.returned v∧Begun w' w.heap.size S' rks v us∧us.map (·.toCluX)=ks.filter (iQH rs lay)∧EngS w' B S'∧aQA B.own w w'∧Ext S S'∧S'.next≤S.next+3500000000
end
end Go.Proofs.YtgjomknpjigkhaaGreatDoor
