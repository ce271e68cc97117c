import Derived.Test.YtgjomknpjigkhaaGreatDoorY30
namespace Go.Proofs.YtgjomknpjigkhaaGreatDoor
open Go.Proofs.Tryz
set_option maxRecDepth 100000
set_option maxHeartbeats 4000000
section
open Go.RowKit
section
variable {P:Program} {ops:Array Oper} {Q:Exit→Act→World→Prop} {md:Region.Mode} {S:World→Prop} {z:Nat}
def Ix (md:Region.Mode) (ops:Array Oper) (listed:Array Bool):List Nat→Nat→Bool
 | [],_=>true
 | [p],i=>Fy md ops p i && !listed.getD p true
 | p :: q :: ps,i=>Fy md ops p q && !listed.getD p true && Ix md ops listed (q :: ps) i
theorem not_ready' {p i:Nat} {listed:Array Bool} (h:Fy md ops p i=true) (h0:listed.getD i true=false):p∉Region.ready md ops listed:=by
 intro hz;obtain ⟨_,o,ho,hall⟩:=mem_ready.1 hz;unfold Fy at h;rw [ho] at h;simp only [A4,BS,List.any_eq_true] at h;obtain ⟨e,he',hb⟩:=h;have he:e∈o.after:=by simpa using he'
 rw [Ao] at hb;have h1:=hall e he hb.1;have e1:e.on=i:=by simpa using hb.2
 rw [e1] at h1;rcases BL i listed.size with q | q
 ·simp [q] at h0 h1;rw [h0] at h1;cases h1
 ·simp [Array.getElem?_eq_none q] at h1
theorem Y4 {p:Nat} {ps:List Nat} {i:Nat} {listed:Array Bool} (h:Ix md ops listed (p :: ps) i=true):listed.getD p true=false:=by
 cases ps with
 | nil=>simp only [Ix,Ao,Ct] at h;exact h.2
 | cons q ps=>simp only [Ix,Ao,Ct] at h;exact h.1.2
theorem Xr:∀ (ps:List Nat) {i:Nat} {listed:Array Bool},Ix md ops listed ps i=true→listed.getD i true=false→∀ p∈ps,p∉Region.ready md ops listed
 | [],_,_,_,_,p,hp=>by cases hp
 | [q],i,listed,h,h0,p,hp=>by
  simp only [AG] at hp;subst hp;simp only [Ix,Ao] at h;exact not_ready' h.1 h0
 | q :: r :: ps,i,listed,h,h0,p,hp=>by
  have h2:=h;simp only [Ix,Ao] at h;rcases AJ.1 hp with rfl | hp
  ·exact not_ready' h.1.1 (Y4 h.2)
  ·exact Xr (r :: ps) h.2 h0 p hp
theorem Qv:∀ (ps:List Nat) {i j:Nat} {listed:Array Bool},Ix md ops listed ps i=true→j∉ps→Ix md ops (listed.setIfInBounds j true) ps i=true
 | [],_,_,_,_,_=>rfl
 | [q],i,j,listed,h,hj=>by
  simp only [Ix,Ao] at h ⊢;exact ⟨h.1,by rw [getD_set_ne true (fun e=>hj (by simp [e]))];exact h.2⟩
 | q :: r :: ps,i,j,listed,h,hj=>by
  simp only [Ix,Ao] at h ⊢;exact ⟨⟨h.1.1,by rw [getD_set_ne true (fun e=>hj (by simp [e]))];exact h.1.2⟩,Qv (r :: ps) h.2 (fun e=>hj (AO _ e))⟩
theorem QF {i:Nat} {oi:Oper} {v:Value} {ps:List Nat} (hzp:z∈ps) (hi:ops[i]?=some oi) (hsel:∀ (j:Nat) (o:Oper) cs b,ops[j]?=some o→o.op≠.select cs b) (hQ:∀ c a w,Q (.panic c) (a.put oi.dst v) w→Q (.panic c) a w):∀ (fuel:Nat) (listed:Array Bool) (a:Act) (w:World),Ix md ops listed ps i=true →
  (∀ j oj,ops[j]?=some oj→j≠i→listed.getD j true=false→(∀ e∈oj.after,Region.binds md e=true→e.on≠i)→oi.apart ops oj=true)→i∈Region.ready md ops listed→YieldsIf P ops S oi v a→S w→En P md ops Q S z fuel (listed.setIfInBounds i true) (a.put oi.dst v) w→En P md ops Q S z (fuel+1) listed a w:=by
 intro fuel;induction fuel with
 | zero=>
  intro listed a w _ _ hr hy hS H;refine ⟨fun h=>(by rw [h] at hr;cases hr),fun j hj=>?_⟩;by_cases e:j=i
  ·subst e;exact hy.wpOp hi hS ⟨fun _=>hS,H⟩
  ·have:=ready_mono hj e;rw [H.1] at this;cases this
 | succ fuel ih=>
  intro listed a w hpath hfree hr hy hS H;refine ⟨fun h=>(by rw [h] at hr;cases hr),fun j hj=>?_⟩;by_cases e:j=i
  ·subst e;exact hy.wpOp hi hS ⟨fun _=>hS,H⟩
  ·have hjp:j∉ps:=fun q=>Xr ps hpath (mem_ready.1 hr).1 j q hj;have hjz:j≠z:=fun q=>hjp (q ▸ hzp);have hstep:=H.2 j (ready_mono hj e);obtain ⟨hun,oj,hoj,hall⟩:=mem_ready.1 hj;have hno:∀ x∈oj.after,Region.binds md x=true→x.on≠i:=fun x hx hb q=>by
    have h1:=hall x hx hb;have h0:=(mem_ready.1 hr).1;rw [q] at h1;rcases BL i listed.size with h' | h'
    ·simp [h'] at h0 h1;rw [h0] at h1;cases h1
    ·simp [Array.getElem?_eq_none h'] at h1
   have hput:=wpOp_putIf hoj (hfree j oj hoj e hun hno) (fun cs b=>hsel i oi cs b hi) (fun cs b=>hsel j oj cs b hoj) hQ hy hstep;refine wpOp_mono (fun a' w' q=>⟨fun _=>q.2.1 hjz,ih (listed.setIfInBounds j true) a' w' (Qv ps hpath hjp) (fun k ok hk hki hkun hkno=>hfree k ok hk hki ?_ hkno) (ready_mono hr (Ne.symm e)) q.1 (q.2.1 hjz) ?_⟩) hput
   ·by_cases hjk:j=k
    ·subst hjk;exact hun
    ·rw [getD_set_ne true hjk] at hkun;exact hkun
   ·rw [Array.setIfInBounds_comm _ _ e];exact q.2.2
theorem BJ {l r:List Oper} (ps:List Nat) (i:Nat) {oi:Oper} {v:Value} {fuel:Nat} {listed:Array Bool} {a:Act} {w:World} (hzp:z∈ps) (hp:Ix md l.toArray listed ps i=true) (hi:l.drop i=oi :: r) (hs:Region.noSelect l.toArray=true) (hf:Region.free md l.toArray listed i=true) (hr:(Region.ready md l.toArray listed).contains i=true) (hQ:∀ c a w,Q (.panic c) (a.put oi.dst v) w→Q (.panic c) a w) (hy:YieldsIf P l.toArray S oi v a) (hS:S w) (h:En P md l.toArray Q S z fuel (listed.setIfInBounds i true) (a.put oi.dst v) w):En P md l.toArray Q S z (fuel+1) listed a w:=by
 have hi':l.toArray[i]?=some oi:=by
  have:l[i]?=some oi:=by
   have e:=List.getElem?_drop (xs:=l) (i:=i) (j:=0);rw [hi] at e;simpa using e.symm
  simpa using this
 exact QF hzp hi' (Region.noSelect_spec hs) hQ fuel listed a w hp (Region.free_spec hi' hf) (by simpa using hr) hy hS h
end
def mG (bb gr cr:Nat) (B:SB) (rs:List A9) (x0 x1 x3:Value) (Fs:Nat→List Nat→Prop) (ks:List CluX) (i:Nat) (r:A9) (rks:Nat→List Nat→Option Nat) (w:World) (S:ST) (e:Ending) (w':World):Prop:=
 e=.returned (.tuple #[])∧∃ f rs' S' rk',FZ w' bb B S' gr cr rs' x0 x1 x3∧DM (rs.set i { r with fa:=f }) rs'∧AA (ftp B gr rs) w w'∧S'.next≤S.next+200000000200000∧ES S' rs' Fs rk'∧EL (rs.set i { r with fa:=f }) Fs ks r.layer rks rs.length rk'
theorem XS {w:World} {bb gr cr:Nat} {B:SB} {S:ST} {rs:List A9} {x0 x1:Value} {ka:Option Addr} {ks:List CluX} {kc:Nat} (h:FZ w bb B S gr cr rs x0 x1 (.slice ka ks.length kc)) {Fs:Nat→List Nat→Prop} {rks:Nat→List Nat→Option Nat} (ha:ES S rs Fs rks) (hks:Ia w (ftp B gr rs) ka ks) (hok:∀ k∈ks,Jl rs k.c∧0<k.c.lits.length) (h52:ks.length≤52) {i:Nat} {r:A9} (hi:rs[i]?=some r) (hlay:r.layer≤rs.length) {g cap:Nat} {l:List Nat} (hrow:Bt w g (J2 l)) (hg:g∉B.own) (hll:l.length=r.n) (hd:∀ x∈l,x<8) (hl:S.next+250000000200000<Fq) :
  Calls prog 50 #[.pointer (some ⟨bb,0,none⟩),.int .i64 (i:Int),.slice (some ⟨g,0,none⟩) l.length cap] w (mG bb gr cr B rs x0 x1 (.slice ka ks.length kc) (Xc Fs i (fun t=>Fs i t∨t=l)) ks i r rks w S):=by
 have hil:=(AL.1 hi).1;have hiI:(i:Int)<rs.length:=by omega
 have hn3:=h.cols r (AF hi);obtain ⟨cs,hc,hcs⟩:=h.rel;have hal:=AD (fun (W:World) (k:AA [] w W)=>Nt (cap:=cap) (h.keeps0 k) (hrow.keepsE k) hg (by omega) hd (by omega))
 have h7:=AD (fun (W7:World) (k:AA B.own w.drew W7)=>
  let hb7:=(h.cells.keeps (AA.drew [] w)).keeps k h.bbB;let hg7:=(hc.keeps (AA.drew [] w)).keeps k h.grB
  AU (show W7.cell? ⟨bb,2,none⟩=some (.slice (some ⟨gr,0,none⟩) rs.length cr) from by have:=hb7.cell 2;simpa using this) <| AU (show W7.cell? ⟨bb,4,none⟩=some (.pointer (some ⟨B.b,0,none⟩)) from by have:=hb7.cell 4;simpa using this) (show W7.cell? ⟨gr,i * 5+2,none⟩=some (.int .i64 r.fa) from by rw [hg7.cell];exact (hcs i r hi).c2))
 have hE:=h.eng;have hRf:=(ha i r hi).fa;have Hl:=AD hl;have Hll:=AD hll
 have Hset:=AD (fun (W6:World) (S6:ST) (f:Int) (F:List Nat→Prop) (hE6:C3 W6 B S6) (k:AA B.own w.drew W6) (x:EH S S6) (hn:S6.next≤S.next+130000) (hF:GL S6 f r.n F)=>
  let kw:=((AA.drew [] w).mono (by simp)).trans k
  NT ((h.store kw hE6)) (ha.ext x h.eng.wf hE6.wf) (hks.keeps kw (fun j hj=>.inl (Ck hj))) hok h52 hi hlay hF (by omega))
 have Hmap:=AD (KI hi);have HF1:=AD (h7.out w.drew (AA.refl _ _));clear hl hll hi hks hok ha hc hcs;go_in
 go_upto_region 0 with fail
 refine Fi 18 (fun w'=>w'.cell? ⟨bb,2,none⟩=some (.slice (some ⟨gr,0,none⟩) rs.length cr)∧w'.cell? ⟨bb,4,none⟩=some (.pointer (some ⟨B.b,0,none⟩))∧w'.cell? ⟨gr,i * 5+2,none⟩=some (.int .i64 r.fa)) (by kernel_rfl) ?_;refine BJ [18] 0 (v:=?_) (by decide) (by kernel_rfl) rfl (by kernel_rfl) (by kernel_rfl) (by kernel_rfl) (fun _ _ _ h=>h) (Au ⟨by rfl,?_⟩) HF1.out ?_;rotate_left
 ·(intro w' hSw;obtain ⟨s0,s1,s2⟩:=hSw;go_simp;try with_reducible rfl)
 simp only [Act.put,AE,AK,AH];refine BJ [18] 1 (v:=?_) (by decide) (by kernel_rfl) rfl (by kernel_rfl) (by kernel_rfl) (by kernel_rfl) (fun _ _ _ h=>h) (Au ⟨by rfl,?_⟩) HF1.out ?_;rotate_left
 ·(intro w' hSw;obtain ⟨s0,s1,s2⟩:=hSw;go_simp;try with_reducible rfl)
 simp only [Act.put,AE,AK,AH];refine BJ [18,17,5,4,3] 2 (v:=?_) (by decide) (by kernel_rfl) rfl (by kernel_rfl) (by kernel_rfl) (by kernel_rfl) (fun _ _ _ h=>h) (Au ⟨by rfl,?_⟩) HF1.out ?_;rotate_left
 ·(intro w' hSw;obtain ⟨s0,s1,s2⟩:=hSw;go_simp;try with_reducible rfl)
 simp only [Act.put,AE,AK,AH];refine BJ [18,17,5,4] 3 (v:=?_) (by decide) (by kernel_rfl) rfl (by kernel_rfl) (by kernel_rfl) (by kernel_rfl) (fun _ _ _ h=>h) (Au ⟨by rfl,?_⟩) HF1.out ?_;rotate_left
 ·(intro w' hSw;obtain ⟨s0,s1,s2⟩:=hSw;go_simp;try with_reducible rfl)
 simp only [Act.put,AE,AK,AH];refine BJ [18,17,5] 4 (v:=?_) (by decide) (by kernel_rfl) rfl (by kernel_rfl) (by kernel_rfl) (by kernel_rfl) (fun _ _ _ h=>h) (Au ⟨by rfl,?_⟩) HF1.out ?_;rotate_left
 ·(intro w' hSw;obtain ⟨s0,s1,s2⟩:=hSw;go_simp;try with_reducible rfl)
 simp only [Act.put,AE,AK,AH];refine BJ [18,17] 5 (v:=?_) (by decide) (by kernel_rfl) rfl (by kernel_rfl) (by kernel_rfl) (by kernel_rfl) (fun _ _ _ h=>h) (Au ⟨by rfl,?_⟩) HF1.out ?_;rotate_left
 ·(intro w' hSw;obtain ⟨s0,s1,s2⟩:=hSw;go_simp;try with_reducible rfl)
 simp only [Act.put,AE,AK,AH];refine BJ [18,17,13,12,11,9,8,7] 6 (v:=?_) (by decide) (by kernel_rfl) rfl (by kernel_rfl) (by kernel_rfl) (by kernel_rfl) (fun _ _ _ h=>h) (Au ⟨by rfl,?_⟩) HF1.out ?_;rotate_left
 ·(intro w' hSw;obtain ⟨s0,s1,s2⟩:=hSw;go_simp;try with_reducible rfl)
 simp only [Act.put,AE,AK,AH];refine BJ [18,17,13,12,11,9,8] 7 (v:=?_) (by decide) (by kernel_rfl) rfl (by kernel_rfl) (by kernel_rfl) (by kernel_rfl) (fun _ _ _ h=>h) (Au ⟨by rfl,?_⟩) HF1.out ?_;rotate_left
 ·(intro w' hSw;obtain ⟨s0,s1,s2⟩:=hSw;go_simp;try with_reducible rfl)
 simp only [Act.put,AE,AK,AH];refine BJ [18,17,13,12,11,9] 8 (v:=?_) (by decide) (by kernel_rfl) rfl (by kernel_rfl) (by kernel_rfl) (by kernel_rfl) (fun _ _ _ h=>h) (Au ⟨by rfl,?_⟩) HF1.out ?_;rotate_left
 ·(intro w' hSw;obtain ⟨s0,s1,s2⟩:=hSw;go_simp;try with_reducible rfl)
 simp only [Act.put,AE,AK,AH];refine BJ [18,17,13,12,11] 9 (v:=?_) (by decide) (by kernel_rfl) rfl (by kernel_rfl) (by kernel_rfl) (by kernel_rfl) (fun _ _ _ h=>h) (Au ⟨by rfl,?_⟩) HF1.out ?_;rotate_left
 ·(intro w' hSw;obtain ⟨s0,s1,s2⟩:=hSw;go_simp;try with_reducible rfl)
 simp only [Act.put,AE,AK,AH];refine BJ [18,17,13,12,11] 10 (v:=?_) (by decide) (by kernel_rfl) rfl (by kernel_rfl) (by kernel_rfl) (by kernel_rfl) (fun _ _ _ h=>h) (Au ⟨by rfl,?_⟩) HF1.out ?_;rotate_left
 ·(intro w' hSw;obtain ⟨s0,s1,s2⟩:=hSw;go_simp;try with_reducible rfl)
 simp only [Act.put,AE,AK,AH];refine BJ [18,17,13,12] 11 (v:=?_) (by decide) (by kernel_rfl) rfl (by kernel_rfl) (by kernel_rfl) (by kernel_rfl) (fun _ _ _ h=>h) (Au ⟨by rfl,?_⟩) HF1.out ?_;rotate_left
 ·(intro w' hSw;obtain ⟨s0,s1,s2⟩:=hSw;go_simp;try with_reducible rfl)
 simp only [Act.put,AE,AK,AH];refine BJ [18,17,13] 12 (v:=?_) (by decide) (by kernel_rfl) rfl (by kernel_rfl) (by kernel_rfl) (by kernel_rfl) (fun _ _ _ h=>h) (Au ⟨by rfl,?_⟩) HF1.out ?_;rotate_left
 ·(intro w' hSw;obtain ⟨s0,s1,s2⟩:=hSw;go_simp;try with_reducible rfl)
 simp only [Act.put,AE,AK,AH];refine BJ [18,17] 13 (v:=?_) (by decide) (by kernel_rfl) rfl (by kernel_rfl) (by kernel_rfl) (by kernel_rfl) (fun _ _ _ h=>h) (Au ⟨by rfl,?_⟩) HF1.out ?_;rotate_left
 ·(intro w' hSw;obtain ⟨s0,s1,s2⟩:=hSw;go_simp;try with_reducible rfl)
 simp only [Act.put,AE,AK,AH];refine BJ [18,17,16] 14 (v:=?_) (by decide) (by kernel_rfl) rfl (by kernel_rfl) (by kernel_rfl) (by kernel_rfl) (fun _ _ _ h=>h) (Au ⟨by rfl,?_⟩) HF1.out ?_;rotate_left
 ·(intro w' hSw;obtain ⟨s0,s1,s2⟩:=hSw;go_simp;try with_reducible rfl)
 simp only [Act.put,AE,AK,AH];refine BJ [18,17,16] 15 (v:=?_) (by decide) (by kernel_rfl) rfl (by kernel_rfl) (by kernel_rfl) (by kernel_rfl) (fun _ _ _ h=>h) (Au ⟨by rfl,?_⟩) HF1.out ?_;rotate_left
 ·(intro w' hSw;obtain ⟨s0,s1,s2⟩:=hSw;go_simp;try with_reducible rfl)
 simp only [Act.put,AE,AK,AH];refine BZ 16 (by kernel_rfl) rfl ?_;intro K hK;have HK:=AD hK;clear hK;refine Az rfl 89 _ _ rfl _ func89 (by kernel_rfl) (by kernel_rfl) [.pointer (some ⟨bb,0,none⟩),.slice (some ⟨g,0,none⟩) l.length cap] rfl ?_;refine (hal.out _ (AA.drew [] _)).mono ?_;rintro e W5 ⟨t,S5,rfl,hE5,k5,x5,n5,hr5⟩;refine HK.out _ _ (fun _=>h7.out W5 k5) ?_;clear HK;try simp only [Act.put,AE,AK,AH]
 refine BZ 17 (by kernel_rfl) rfl ?_;intro K hK;have HK:=AD hK;clear hK;refine Az rfl 73 _ _ rfl _ func73 (by kernel_rfl) (by kernel_rfl) [.pointer (some ⟨B.b,0,none⟩),.int .i64 r.fa,.int .i64 t] rfl ?_;refine (bY hE5 (f:=r.fa) (g:=t) (Fg.ext ⟨hRf.1,hRf.2⟩ x5 hE.wf hE5.wf) ⟨hr5.1,hr5.2⟩ (by have:=Hl.out;omega)).mono ?_;rintro e W6 ⟨t6,S6,rfl,hE6,k6,x6,n6,hr6⟩;refine HK.out _ _ (fun _=>h7.out W6 (k5.trans k6)) ?_;clear HK;try simp only [Act.put,AE,AK,AH]
 refine BZ 18 (by kernel_rfl) rfl ?_;intro K hK;have HK:=AD hK;clear hK;refine Az rfl 87 _ _ rfl _ func87 (by kernel_rfl) (by kernel_rfl) [.pointer (some ⟨bb,0,none⟩),.int .i64 (i:Int),.int .i64 t6] rfl ?_;refine (Hset.out W6 S6 t6 (fun t=>Fs i t∨t=l) hE6 (k5.trans k6) (x5.trans x6) (by omega) ⟨hr6.1,fun σ=>by rw [hr6.2,←Hll.out]⟩).mono ?_;rintro e W9 ⟨rfl,rs',S',rk',h1,h2,h3,h4,h5,h6⟩;refine HK.out _ _ (fun h=>absurd rfl h) ?_;clear HK;refine Fj (by kernel_rfl) ?_;have eft:ftp B gr (rs.set i { r with fa:=t6 })=ftp B gr rs:=by unfold ftp;rw [Hmap.out t6]
 rw [eft] at h3;go_wp2_with fail
 go_end0
 exact ⟨rfl,t6,rs',S',rk',h1,h2,((((AA.drew [] w).mono (by simp)).trans (k5.trans k6)).mono (fun j hj=>Ck hj)).trans h3,by omega,h5,by rw [Ay] at h6;exact h6⟩
theorem QL {w:World} {bb gr cr:Nat} {B:SB} {S:ST} {rs:List A9} {x0 x1:Value} {ka:Option Addr} {ks:List CluX} {kc:Nat} (h:FZ w bb B S gr cr rs x0 x1 (.slice ka ks.length kc)) {Fs:Nat→List Nat→Prop} {rks:Nat→List Nat→Option Nat} (ha:ES S rs Fs rks) (hks:Ia w (ftp B gr rs) ka ks) (hok:∀ k∈ks,Jl rs k.c∧0<k.c.lits.length) (h52:ks.length≤52) {i:Nat} {r:A9} (hi:rs[i]?=some r) (hlay:r.layer≤rs.length) {g cap:Nat} {l:List Nat} (hrow:Bt w g (J2 l)) (hg:g∉B.own) (hll:l.length=r.n) (hd:∀ x∈l,x<8) (hl:S.next+250000000200000<Fq) :
  Calls prog 48 #[.pointer (some ⟨bb,0,none⟩),.int .i64 (i:Int),.slice (some ⟨g,0,none⟩) l.length cap] w (mG bb gr cr B rs x0 x1 (.slice ka ks.length kc) (Xc Fs i (fun t=>Fs i t∧¬ t=l)) ks i r rks w S):=by
 have hil:=(AL.1 hi).1;have hiI:(i:Int)<rs.length:=by omega
 have hn3:=h.cols r (AF hi);obtain ⟨cs,hc,hcs⟩:=h.rel;have hal:=AD (fun (W:World) (k:AA [] w W)=>Nt (cap:=cap) (h.keeps0 k) (hrow.keepsE k) hg (by omega) hd (by omega))
 have h7:=AD (fun (W7:World) (k:AA B.own w.drew W7)=>
  let hb7:=(h.cells.keeps (AA.drew [] w)).keeps k h.bbB;let hg7:=(hc.keeps (AA.drew [] w)).keeps k h.grB
  AU (show W7.cell? ⟨bb,2,none⟩=some (.slice (some ⟨gr,0,none⟩) rs.length cr) from by have:=hb7.cell 2;simpa using this) <| AU (show W7.cell? ⟨bb,4,none⟩=some (.pointer (some ⟨B.b,0,none⟩)) from by have:=hb7.cell 4;simpa using this) (show W7.cell? ⟨gr,i * 5+2,none⟩=some (.int .i64 r.fa) from by rw [hg7.cell];exact (hcs i r hi).c2))
 have hE:=h.eng;have hRf:=(ha i r hi).fa;have Hl:=AD hl;have Hll:=AD hll
 have Hset:=AD (fun (W6:World) (S6:ST) (f:Int) (F:List Nat→Prop) (hE6:C3 W6 B S6) (k:AA B.own w.drew W6) (x:EH S S6) (hn:S6.next≤S.next+130000) (hF:GL S6 f r.n F)=>
  let kw:=((AA.drew [] w).mono (by simp)).trans k
  NT ((h.store kw hE6)) (ha.ext x h.eng.wf hE6.wf) (hks.keeps kw (fun j hj=>.inl (Ck hj))) hok h52 hi hlay hF (by omega))
 have Hmap:=AD (KI hi);have HF1:=AD (h7.out w.drew (AA.refl _ _));clear hl hll hi hks hok ha hc hcs;go_in
 go_upto_region 0 with fail
 refine Fi 18 (fun w'=>w'.cell? ⟨bb,2,none⟩=some (.slice (some ⟨gr,0,none⟩) rs.length cr)∧w'.cell? ⟨bb,4,none⟩=some (.pointer (some ⟨B.b,0,none⟩))∧w'.cell? ⟨gr,i * 5+2,none⟩=some (.int .i64 r.fa)) (by kernel_rfl) ?_;refine BJ [18] 0 (v:=?_) (by decide) (by kernel_rfl) rfl (by kernel_rfl) (by kernel_rfl) (by kernel_rfl) (fun _ _ _ h=>h) (Au ⟨by rfl,?_⟩) HF1.out ?_;rotate_left
 ·(intro w' hSw;obtain ⟨s0,s1,s2⟩:=hSw;go_simp;try with_reducible rfl)
 simp only [Act.put,AE,AK,AH];refine BJ [18] 1 (v:=?_) (by decide) (by kernel_rfl) rfl (by kernel_rfl) (by kernel_rfl) (by kernel_rfl) (fun _ _ _ h=>h) (Au ⟨by rfl,?_⟩) HF1.out ?_;rotate_left
 ·(intro w' hSw;obtain ⟨s0,s1,s2⟩:=hSw;go_simp;try with_reducible rfl)
 simp only [Act.put,AE,AK,AH];refine BJ [18,17,5,4,3] 2 (v:=?_) (by decide) (by kernel_rfl) rfl (by kernel_rfl) (by kernel_rfl) (by kernel_rfl) (fun _ _ _ h=>h) (Au ⟨by rfl,?_⟩) HF1.out ?_;rotate_left
 ·(intro w' hSw;obtain ⟨s0,s1,s2⟩:=hSw;go_simp;try with_reducible rfl)
 simp only [Act.put,AE,AK,AH];refine BJ [18,17,5,4] 3 (v:=?_) (by decide) (by kernel_rfl) rfl (by kernel_rfl) (by kernel_rfl) (by kernel_rfl) (fun _ _ _ h=>h) (Au ⟨by rfl,?_⟩) HF1.out ?_;rotate_left
 ·(intro w' hSw;obtain ⟨s0,s1,s2⟩:=hSw;go_simp;try with_reducible rfl)
 simp only [Act.put,AE,AK,AH];refine BJ [18,17,5] 4 (v:=?_) (by decide) (by kernel_rfl) rfl (by kernel_rfl) (by kernel_rfl) (by kernel_rfl) (fun _ _ _ h=>h) (Au ⟨by rfl,?_⟩) HF1.out ?_;rotate_left
 ·(intro w' hSw;obtain ⟨s0,s1,s2⟩:=hSw;go_simp;try with_reducible rfl)
 simp only [Act.put,AE,AK,AH];refine BJ [18,17] 5 (v:=?_) (by decide) (by kernel_rfl) rfl (by kernel_rfl) (by kernel_rfl) (by kernel_rfl) (fun _ _ _ h=>h) (Au ⟨by rfl,?_⟩) HF1.out ?_;rotate_left
 ·(intro w' hSw;obtain ⟨s0,s1,s2⟩:=hSw;go_simp;try with_reducible rfl)
 simp only [Act.put,AE,AK,AH];refine BJ [18,17,13,12,11,9,8,7] 6 (v:=?_) (by decide) (by kernel_rfl) rfl (by kernel_rfl) (by kernel_rfl) (by kernel_rfl) (fun _ _ _ h=>h) (Au ⟨by rfl,?_⟩) HF1.out ?_;rotate_left
 ·(intro w' hSw;obtain ⟨s0,s1,s2⟩:=hSw;go_simp;try with_reducible rfl)
 simp only [Act.put,AE,AK,AH];refine BJ [18,17,13,12,11,9,8] 7 (v:=?_) (by decide) (by kernel_rfl) rfl (by kernel_rfl) (by kernel_rfl) (by kernel_rfl) (fun _ _ _ h=>h) (Au ⟨by rfl,?_⟩) HF1.out ?_;rotate_left
 ·(intro w' hSw;obtain ⟨s0,s1,s2⟩:=hSw;go_simp;try with_reducible rfl)
 simp only [Act.put,AE,AK,AH];refine BJ [18,17,13,12,11,9] 8 (v:=?_) (by decide) (by kernel_rfl) rfl (by kernel_rfl) (by kernel_rfl) (by kernel_rfl) (fun _ _ _ h=>h) (Au ⟨by rfl,?_⟩) HF1.out ?_;rotate_left
 ·(intro w' hSw;obtain ⟨s0,s1,s2⟩:=hSw;go_simp;try with_reducible rfl)
 simp only [Act.put,AE,AK,AH];refine BJ [18,17,13,12,11] 9 (v:=?_) (by decide) (by kernel_rfl) rfl (by kernel_rfl) (by kernel_rfl) (by kernel_rfl) (fun _ _ _ h=>h) (Au ⟨by rfl,?_⟩) HF1.out ?_;rotate_left
 ·(intro w' hSw;obtain ⟨s0,s1,s2⟩:=hSw;go_simp;try with_reducible rfl)
 simp only [Act.put,AE,AK,AH];refine BJ [18,17,13,12,11] 10 (v:=?_) (by decide) (by kernel_rfl) rfl (by kernel_rfl) (by kernel_rfl) (by kernel_rfl) (fun _ _ _ h=>h) (Au ⟨by rfl,?_⟩) HF1.out ?_;rotate_left
 ·(intro w' hSw;obtain ⟨s0,s1,s2⟩:=hSw;go_simp;try with_reducible rfl)
 simp only [Act.put,AE,AK,AH];refine BJ [18,17,13,12] 11 (v:=?_) (by decide) (by kernel_rfl) rfl (by kernel_rfl) (by kernel_rfl) (by kernel_rfl) (fun _ _ _ h=>h) (Au ⟨by rfl,?_⟩) HF1.out ?_;rotate_left
 ·(intro w' hSw;obtain ⟨s0,s1,s2⟩:=hSw;go_simp;try with_reducible rfl)
 simp only [Act.put,AE,AK,AH];refine BJ [18,17,13] 12 (v:=?_) (by decide) (by kernel_rfl) rfl (by kernel_rfl) (by kernel_rfl) (by kernel_rfl) (fun _ _ _ h=>h) (Au ⟨by rfl,?_⟩) HF1.out ?_;rotate_left
 ·(intro w' hSw;obtain ⟨s0,s1,s2⟩:=hSw;go_simp;try with_reducible rfl)
 simp only [Act.put,AE,AK,AH];refine BJ [18,17] 13 (v:=?_) (by decide) (by kernel_rfl) rfl (by kernel_rfl) (by kernel_rfl) (by kernel_rfl) (fun _ _ _ h=>h) (Au ⟨by rfl,?_⟩) HF1.out ?_;rotate_left
 ·(intro w' hSw;obtain ⟨s0,s1,s2⟩:=hSw;go_simp;try with_reducible rfl)
 simp only [Act.put,AE,AK,AH];refine BJ [18,17,16] 14 (v:=?_) (by decide) (by kernel_rfl) rfl (by kernel_rfl) (by kernel_rfl) (by kernel_rfl) (fun _ _ _ h=>h) (Au ⟨by rfl,?_⟩) HF1.out ?_;rotate_left
 ·(intro w' hSw;obtain ⟨s0,s1,s2⟩:=hSw;go_simp;try with_reducible rfl)
 simp only [Act.put,AE,AK,AH];refine BJ [18,17,16] 15 (v:=?_) (by decide) (by kernel_rfl) rfl (by kernel_rfl) (by kernel_rfl) (by kernel_rfl) (fun _ _ _ h=>h) (Au ⟨by rfl,?_⟩) HF1.out ?_;rotate_left
 ·(intro w' hSw;obtain ⟨s0,s1,s2⟩:=hSw;go_simp;try with_reducible rfl)
 simp only [Act.put,AE,AK,AH];refine BZ 16 (by kernel_rfl) rfl ?_;intro K hK;have HK:=AD hK;clear hK;refine Az rfl 89 _ _ rfl _ func89 (by kernel_rfl) (by kernel_rfl) [.pointer (some ⟨bb,0,none⟩),.slice (some ⟨g,0,none⟩) l.length cap] rfl ?_;refine (hal.out _ (AA.drew [] _)).mono ?_;rintro e W5 ⟨t,S5,rfl,hE5,k5,x5,n5,hr5⟩;refine HK.out _ _ (fun _=>h7.out W5 k5) ?_;clear HK;try simp only [Act.put,AE,AK,AH]
 refine BZ 17 (by kernel_rfl) rfl ?_;intro K hK;have HK:=AD hK;clear hK;refine Az rfl 88 _ _ rfl _ func88 (by kernel_rfl) (by kernel_rfl) [.pointer (some ⟨B.b,0,none⟩),.int .i64 r.fa,.int .i64 t] rfl ?_;refine (XC hE5 (f:=r.fa) (g:=t) (Fg.ext ⟨hRf.1,hRf.2⟩ x5 hE.wf hE5.wf) ⟨hr5.1,hr5.2⟩ (by have:=Hl.out;omega)).mono ?_;rintro e W6 ⟨t6,S6,rfl,hE6,k6,x6,n6,hr6⟩;refine HK.out _ _ (fun _=>h7.out W6 (k5.trans k6)) ?_;clear HK;try simp only [Act.put,AE,AK,AH]
 refine BZ 18 (by kernel_rfl) rfl ?_;intro K hK;have HK:=AD hK;clear hK;refine Az rfl 87 _ _ rfl _ func87 (by kernel_rfl) (by kernel_rfl) [.pointer (some ⟨bb,0,none⟩),.int .i64 (i:Int),.int .i64 t6] rfl ?_;refine (Hset.out W6 S6 t6 (fun t=>Fs i t∧¬ t=l) hE6 (k5.trans k6) (x5.trans x6) (by omega) ⟨hr6.1,fun σ=>by rw [hr6.2,←Hll.out]⟩).mono ?_;rintro e W9 ⟨rfl,rs',S',rk',h1,h2,h3,h4,h5,h6⟩;refine HK.out _ _ (fun h=>absurd rfl h) ?_;clear HK;refine Fj (by kernel_rfl) ?_;have eft:ftp B gr (rs.set i { r with fa:=t6 })=ftp B gr rs:=by unfold ftp;rw [Hmap.out t6]
 rw [eft] at h3;go_wp2_with fail
 go_end0
 exact ⟨rfl,t6,rs',S',rk',h1,h2,((((AA.drew [] w).mono (by simp)).trans (k5.trans k6)).mono (fun j hj=>Ck hj)).trans h3,by omega,h5,by rw [Ay] at h6;exact h6⟩
section
variable {w:World} {bb gr cr:Nat} {B:SB} {S:ST} {rs:List A9} {x0 x1 x3:Value}
theorem Nh (h:FZ w bb B S gr cr rs x0 x1 x3) {Fs:Nat→List Nat→Prop} {rk:Nat→List Nat→Option Nat} (ha:ES S rs Fs rk) {i:Nat} {r:A9} (hi:rs[i]?=some r) {g cap:Nat} {l:List Nat} (hrow:Bt w g (J2 l)) (hl:l∈C7 r.n) :
  Calls prog 47 #[.pointer (some ⟨bb,0,none⟩),.int .i64 (i:Int),.slice (some ⟨g,0,none⟩) l.length cap] w fun e w'=>(∃ b:Bool,e=.returned (.bool b)∧(b=true↔Fs i l))∧AA [] w w':=by
 obtain ⟨hl1,hl2⟩:=FH.1 hl;have hrm:=AF hi;have hn3:=h.cols r hrm;have hfa:=(ha i r hi).fa;obtain ⟨cs,hc,hcs⟩:=h.rel;have hil:(i:Int)<rs.length:=by have:=(AL.1 hi).1;omega
 have g3:w.cell? ⟨gr,i * 5+2,none⟩=some (.int .i64 r.fa):=by rw [hc.cell];exact (hcs i r hi).c2
 have g2:=h.cells.cell 2;have g4:=h.cells.cell 4;simp at g2 g4;have hkeep:=AD (fun (W:World) (k:AA [] w W)=>show W.cell? ⟨bb,2,none⟩=some (.slice (some ⟨gr,0,none⟩) rs.length cr)∧W.cell? ⟨bb,4,none⟩=some (.pointer (some ⟨B.b,0,none⟩))∧W.cell? ⟨gr,i * 5+2,none⟩=some (.int .i64 r.fa) from ⟨by have:=(h.cells.keeps k).cell 2;simpa using this,by have:=(h.cells.keeps k).cell 4;simpa using this,by rw [(hc.keeps k).cell];exact (hcs i r hi).c2⟩);have hsm:asn l<4096:=by
  have h1:=Pr l 0;have h2:2 ^ (3 * (0+l.length))≤2 ^ 9:=Ch (by decide) (by omega);have h3:asnF l 0=asn l:=rfl;omega
 have has:=AD (fun (W:World) (k:AA [] w W)=>MZ (w:=W) (cap:=cap) (hrow.keepsE k) (by omega) hl2);have hev:=AD (fun (W:World) (k:AA [] w W)=>Wy r.fa (asn l:Nat) ((h.eng.sat).keeps k) h.eng.wf hfa.1 (by rw [h.eng.n];omega) (by omega) (by omega));have hval:(S.den r.fa (Gf ((asn l:Nat):Int))=true↔Fs i l):=by
  rw [hfa.2];have:=IE 0 hl;rw [show EC (Gf ((asn l:Nat):Int)) 0 r.n=l from this]
 generalize S.den r.fa (Gf ((asn l:Nat):Int))=b at *;clear hi hl hl1 hc hcs ha h hrow hfa;go_in
 go_wp2_with fail
 go_region_held3 (fun w'=>w'.cell? ⟨bb,2,none⟩=some (.slice (some ⟨gr,0,none⟩) rs.length cr)∧w'.cell? ⟨bb,4,none⟩=some (.pointer (some ⟨B.b,0,none⟩))∧w'.cell? ⟨gr,i * 5+2,none⟩=some (.int .i64 r.fa)) (first | exact ⟨g2,g4,g3⟩ | exact ⟨a0,a1,a2⟩ | exact ⟨b0,b1,b2⟩)
  (first
  | (go_at_call 86
     refine (has.out _ (AA.drew [] _)).mono ?_;rintro e W5 ⟨rfl,k5⟩
     obtain ⟨a0,a1,a2⟩:=hkeep.out W5 ((AA.drew [] w).trans k5))
  | (go_at_call 85
     refine (hev.out _ ((AA.drew [] w).trans k5)).mono ?_;rintro e W6 ⟨rfl,k6⟩
     obtain ⟨b0,b1,b2⟩:=hkeep.out W6 (((AA.drew [] w).trans k5).trans k6)))
 all_goals
  go_wp2_with fail
  go_ret
  exact ⟨⟨b,rfl,hval⟩,((AA.drew [] w).trans k5).trans k6⟩
end
end
section
open Go.RowKit Go.Shelf
attribute [local go_sem] Oper.semAt_some
def factN (S:ST) (rs:List A9):Nat:=(rs.map (fun r=>(S.trues r.fa (3 * r.n)).length)).sum
theorem Qi (S:ST) (f:Int) {n:Nat} (h3:n≤3):(S.trues f (3 * n)).length≤512:=by
 have:=OR S f h3;unfold GO at this;rwa [AZ] at this
theorem Wv (S:ST) (rs:List A9) {j:Nat} {r:A9} (h:rs[j]?=some r):factN S (rs.take (j+1))=factN S (rs.take j)+(S.trues r.fa (3 * r.n)).length:=by
 rw [An,h];simp [factN]
theorem M8 (S:ST):∀ (rs:List A9),(∀ r∈rs,r.n≤3)→factN S rs≤512 * rs.length
 | [],_=>AS _
 | r :: rs,h=>by
  have h1:=M8 S rs (fun x hx=>h x (by simp [hx]));have h2:=Qi S r.fa (h r (by simp));unfold factN at h1 ⊢;simp only [A0,List.sum_cons,AV];omega
def lW (b:Nat):Deferred:={ target:=.collected b,args:=#[] }
theorem MM {fn:Func} {tmps:Array Value} {R:Ending→World→Prop}:∀ (bs:List Nat) (w:World),bs.Nodup→(∀ b∈bs,w.heap[b]?=some (.deferred (some [])))→(∀ w',AA bs w w'→LeavesIn Fence.wide 0 prog fn tmps R [] .returning w')→LeavesInM Fence.wide 0 prog fn tmps R (bs.map lW) .returning w
 | [],w,_,_,h=>h w (AA.refl _ _)
 | b :: bs,w,hn,hb,h=>by
  have hn':=B9.1 hn;have kP:=AA.putObj w b (.deferred none);refine ⟨by simp,.inl ⟨b,_,rfl,run_takeDeferred (hb b (by simp)),?_⟩⟩;refine MM bs _ hn'.2 (fun c hc=>?_) (fun w' k=>h w' ((kP.mono (by simp)).trans (k.mono (fun i hi=>by simp [hi]))));exact (World.putObj_heap_other (by intro e;subst e;exact hn'.1 hc)).trans (hb c (by simp [hc]))
theorem dW {w:World} {bb gr cr:Nat} {B:SB} {S:ST} {rs:List A9} {x0 x1 x3:Value} (h:FZ w bb B S gr cr rs x0 x1 x3) {Fs:Nat→List Nat→Prop} {rk:Nat→List Nat→Option Nat} (ha:ES S rs Fs rk) :
  CallsIn Fence.wide 0 prog 49 #[.pointer (some ⟨bb,0,none⟩)] w fun e w'=>e=.returned (.int .i64 ((factN S rs:Nat):Int))∧AA [] w w':=by
 have kA:=AA.alloc [] w (.cells #[.int .i64 0] 3);have hA:=AM.new w #[.int .i64 0] 3;have zA:=AY w (.cells #[.int .i64 0] 3);have hbA:=h.keeps0 kA;have b2:=hbA.cells.cell 2;simp at b2;have h6:=h.few;have hbl:=h.cells.lt;have hno:=h.eng.sat.fresh (AS w.heap.size);refine callsIn_of_wp_marks func49 rfl trivial ?_ rfl;simp only [ntmps49,Bv,AV,A1,Nat.reduceAdd,Nat.reduceSub,By,Bx,CE,Bj,BU,A6];refine wpIn_wide.2 ?_;go_wp2_with fail
 generalize hWA:w.alloc (.cells #[.int .i64 0] 3)=WA at *;refine (wpIn_wide (n:=0)).1 ?_;refine wpIn_loop (fun a W=>∃ (j:Nat) (bs:List Nat) (u4 u5 u12 u13 u14 u15 u16 u17 u18 u19 u20 u21 u22 u23 u24 u25 u26 u27 u28 u29 u30 u34:Value),a={ tmps:=#[.pointer (some ⟨bb,0,none⟩),undef,.int .i64 0,.pointer (some ⟨w.heap.size,0,none⟩),u4,u5,.pointer (some ⟨bb,0,none⟩),.pointer (some ⟨bb,0,none⟩),.pointer (some ⟨bb,2,none⟩),.slice (some ⟨gr,0,none⟩) rs.length cr,.int .i64 (rs.length:Int),.int .i64 (j:Int),u12,u13,u14,u15,u16,u17,u18,u19,u20,u21,u22,u23,u24,u25,u26,u27,u28,u29,u30,undef,undef,undef,u34,undef],defers:=bs.map lW }∧j≤rs.length∧AM W w.heap.size #[.int .i64 ((factN S (rs.take j):Nat):Int)]∧AA [w.heap.size] WA W∧bs.Nodup∧∀ b∈bs,WA.heap.size≤b∧W.heap[b]?=some (.deferred (some []))) (fun a _=>((rs.length:Int) - intOf (a.tmps.getD 11 undef)).toNat) ?_ ?_
 ·exact ⟨0,[],undef,undef,undef,undef,undef,undef,undef,undef,undef,undef,undef,undef,undef,undef,undef,undef,undef,undef,undef,undef,undef,undef,rfl,CP _,by simpa [factN] using hA,AA.refl _ _,List.nodup_nil,by simp⟩
 ·rintro a W ⟨j,bs,u4,u5,u12,u13,u14,u15,u16,u17,u18,u19,u20,u21,u22,u23,u24,u25,u26,u27,u28,u29,u30,u34,rfl,hj,hc,hk,hnd,hbs⟩;refine wpIn_wide.2 ?_;have hNb:factN S (rs.take j)≤3072:=by
   have h1:=M8 S (rs.take j) (fun r hr=>h.cols r (Cj hr));have h2:(rs.take j).length≤j:=by rw [A5];omega
   omega
  by_cases hjn:j<rs.length
  ·have hjI:(j:Int)<rs.length:=(by omega);obtain ⟨r,hr⟩:∃ r,rs[j]?=some r:=⟨_,AB hjn⟩;have hrm:=AF hr;have hn3:=h.cols r hrm;obtain ⟨cs,hc0,hcs⟩:=h.rel;have hgl:=hc0.lt;have hgc:=(hc0.keeps kA).keeps hk (by simp;omega);have hbc:=hbA.cells.keeps hk (by simp;omega);have hE:=hbA.eng.keeps hk (fun i hi hm=>hno (by simp only [AG] at hm;rw [←hm];exact hi));have g2:=hbc.cell 2;have g4:=hbc.cell 4;simp at g2 g4;have p0:W.cell? ⟨gr,j * 5,none⟩=some (.slice r.sa r.n r.cc):=by rw [hgc.cell];exact (hcs j r hr).c0
   have p2:W.cell? ⟨gr,j * 5+2,none⟩=some (.int .i64 r.fa):=by rw [hgc.cell];exact (hcs j r hr).c2
   have hv:=AD (KJ W.drew gr (j * 5) r.n r.sa r.cc (by omega) p0);have hfa:=(ha j r hr).fa;have hHk:=hfa.hk;have hk9:3 * r.n≤9:=(by omega);have hfn:=Wv S rs hr;have hfew:=Qi S r.fa hn3;have hWs:=hk.size;generalize hk3:3 * r.n=k at hv hHk hk9 hfn hfew ⊢;have Hfn:=AD hfn;have HNb:=AD hNb;have Hz:=AD zA;have Hbl:=AD hbl;clear hfn hNb zA hbl hk3 hgl;go_wp2_with fail
   refine Ex 10 (by kernel_rfl) (by kernel_rfl) ?_;simp only [Bs,Ca,Bi,BM];repeat (first | go_big_quiet_step (fail) | (go_big_quiet_want;go_big_quiet_op;apply Exists.intro;refine AU (hv.out) ?_;go_big_quiet_on))
   refine wpQuiet_nil ?_;go_wp2_with fail
   refine (KB _ _ _ _).mono ?_;rintro e W2 ⟨rfl,rfl⟩;go_wp2_with fail
   have kp:=AA.alloc [] W (.cells #[.pointer (some ⟨B.b,0,none⟩)] 135);have hp:=AM.new W #[.pointer (some ⟨B.b,0,none⟩)] 135;have kq:=AA.alloc [] (W.alloc (.cells #[.pointer (some ⟨B.b,0,none⟩)] 135)) (.cells #[.int .i64 r.fa] 3);have hq:=AM.new (W.alloc (.cells #[.pointer (some ⟨B.b,0,none⟩)] 135)) #[.int .i64 r.fa] 3;have ku:=AA.alloc [] ((W.alloc (.cells #[.pointer (some ⟨B.b,0,none⟩)] 135)).alloc (.cells #[.int .i64 r.fa] 3)) (.cells #[.int .i64 (k:Int)] 3);have hu:=AM.new ((W.alloc (.cells #[.pointer (some ⟨B.b,0,none⟩)] 135)).alloc (.cells #[.int .i64 r.fa] 3)) #[.int .i64 (k:Int)] 3;simp only [World.size_alloc] at hp hq hu;have kd:=AA.drew [] (((W.alloc (.cells #[.pointer (some ⟨B.b,0,none⟩)] 135)).alloc (.cells #[.int .i64 r.fa] 3)).alloc (.cells #[.int .i64 (k:Int)] 3));have k4:=((kp.trans kq).trans ku).trans kd;have hp4:=((hp.keeps kq).keeps ku).keeps kd;have hq4:=(hq.keeps ku).keeps kd;have hu4:=hu.keeps kd;have z4:((((W.alloc (.cells #[.pointer (some ⟨B.b,0,none⟩)] 135)).alloc (.cells #[.int .i64 r.fa] 3)).alloc (.cells #[.int .i64 (k:Int)] 3)).drew).heap.size=W.heap.size+1+1+1:=(by simp);clear kp kq ku kd hp hq hu;generalize (((W.alloc (.cells #[.pointer (some ⟨B.b,0,none⟩)] 135)).alloc (.cells #[.int .i64 r.fa] 3)).alloc (.cells #[.int .i64 (k:Int)] 3)).drew=W4 at *;have hE4:=hE.keeps0 k4;have hcn:=hc.keeps k4;have hcl:w.heap.size<W.heap.size:=hc.lt
   have hit:=OU hE4.sat hE4.wf hE4.idn hE4.ho hE4.n hE4.co (W.heap.size) (W.heap.size+1) (W.heap.size+1+1) r.fa k hp4 hq4 hu4 hfa.1 hHk hk9 [w.heap.size] (by
    intro t ht;simp only [AG] at ht;subst ht
    exact ⟨by omega,hno⟩)
   refine (wpIn_wide (n:=0)).1 ?_
   refine Ms (gf:=153) (lb:=#[.pointer (some ⟨W.heap.size,0,none⟩),.pointer (some ⟨W.heap.size+1,0,none⟩),.pointer (some ⟨W.heap.size+1+1,0,none⟩)]) rfl (enters_of func153 (by kernel_rfl) rfl) (T:=[w.heap.size]) (by simp;omega) hit (fun _=>rfl)
    (fun pre V=>AM V w.heap.size #[.int .i64 ((factN S (rs.take j)+pre.length:Nat):Int)])
    (fun pre W1 W2 h hb=>h.of_heap (hb.block _ (by omega))) (by simpa using hcn)
    (fun y a' V=>a' = { tmps:=#[.pointer (some ⟨bb,0,none⟩),undef,.int .i64 0,.pointer (some ⟨w.heap.size,0,none⟩),.int .i64 (j:Int),.pointer (some ⟨gr,j * 5,none⟩),.pointer (some ⟨bb,0,none⟩),.pointer (some ⟨bb,0,none⟩),.pointer (some ⟨bb,2,none⟩),.slice (some ⟨gr,0,none⟩) rs.length cr,.int .i64 (rs.length:Int),.int .i64 (j:Int),.bool true,.int .i64 (j:Int),.pointer (some ⟨bb,0,none⟩),.pointer (some ⟨bb,0,none⟩),.pointer (some ⟨bb,2,none⟩),.slice (some ⟨gr,0,none⟩) rs.length cr,.int .i64 (j:Int),.pointer (some ⟨gr,j * 5,none⟩),.pointer (some ⟨bb,0,none⟩),.pointer (some ⟨bb,0,none⟩),.pointer (some ⟨bb,4,none⟩),.pointer (some ⟨B.b,0,none⟩),.pointer (some ⟨gr,j * 5,none⟩),.pointer (some ⟨gr,j * 5,none⟩),.pointer (some ⟨gr,j * 5+2,none⟩),.int .i64 r.fa,.pointer (some ⟨gr,j * 5,none⟩),.int .i64 (k:Int),.func (.func 153) #[] #[.pointer (some ⟨W.heap.size,0,none⟩),.pointer (some ⟨W.heap.size+1,0,none⟩),.pointer (some ⟨W.heap.size+1+1,0,none⟩)],.int .i64 (y:Nat),undef,undef,u34,undef],defers:=[] }) (fun x a' W1 W2 h _=>h) ?assign ?body ?done
   case assign=>
    intro l pre y V K hlt hi hc hK;gi_wp2
    exact hK _ _ (by simp [eA]) (AA.refl _ _)
   case body=>
    rintro l pre y a' V hlt i1 hcond rfl;have d0:V.cell? ⟨w.heap.size,0,none⟩=some (.int .i64 ((factN S (rs.take j)+pre.length:Nat):Int)):=by rw [i1.cell];rfl
    have f0:=i1.frozen 0;have hpl:pre.length≤512:=by
     have:=hcond.length_le;rw [AN] at this;omega
    have hb3:=HNb.out;have hS:=i1.setCell 0 (.int .i64 ((factN S (rs.take j)+(pre++[y]).length:Nat):Int));have kS:=AA.setCell V ⟨w.heap.size,0,none⟩ (.int .i64 ((factN S (rs.take j)+(pre++[y]).length:Nat):Int));have eN:((factN S (rs.take j)+(pre++[y]).length:Nat):Int)=((factN S (rs.take j)+pre.length:Nat):Int)+1:=by simp;omega
    rw [eN] at hS kS;generalize hQ:((factN S (rs.take j)+pre.length:Nat):Int)=q at *;have hq0:0≤q:=(by omega);have hq1:q≤4000:=(by omega);have Hfin:Hid (∀ a',ND (fun V=>AM V w.heap.size #[.int .i64 ((factN S (rs.take j)+(pre++[y]).length:Nat):Int)]) [w.heap.size] V .normal a' (V.setCell ⟨w.heap.size,0,none⟩ (.int .i64 (q+1)))):=AD (fun a'=>⟨by rw [eN];simpa using hS,kS⟩);clear eN hS kS i1 hb3 hpl;dsimp only;gi_wp2
    exact Hfin.out { tmps:=#[],defers:=[] }
   case done=>
    rintro xs V rfl i1 hkV hlt hD;have kW:AA [w.heap.size] WA V:=(hk.trans (k4.mono (by simp))).trans hkV;have hbs2:∀ b∈bs,WA.heap.size≤b∧V.heap[b]?=some (.deferred (some [])):=fun b hb=>by
     have h1:=hbs b hb;have h2:=(AP.1 h1.2).1;refine ⟨h1.1,?_⟩;rw [hkV.block b (by omega) (by simp only [AG];have:=Hz.out;omega),k4.block b h2 (by simp)];exact h1.2
    have hnb:W4.heap.size∉bs:=fun hm=>by
     have:=(AP.1 (hbs _ hm).2).1;omega
    have Hfin:=AD (AU i1 (AU kW (AU hbs2 hnb)));clear i1 kW hbs2 hnb;go_wp2_with fail
    obtain ⟨i1,kW,hbs2,hnb⟩:=Hfin.out;refine ⟨⟨j+1,W4.heap.size :: bs,_,_,_,_,_,_,_,_,_,_,_,_,_,_,_,_,_,_,_,_,_,_,rfl,by omega,by rw [Hfn.out];exact i1,kW,B9.2 ⟨hnb,hnd⟩,fun b hb=>?_⟩,?_⟩
    ·rcases AJ.1 hb with rfl | hb
     ·exact ⟨by omega,hD⟩
     ·exact hbs2 b hb
    ·simp [intOf];omega
  ·have hjI:¬ (j:Int)<rs.length:=(by omega);have ej:j=rs.length:=(by omega);subst ej;rw [Bm] at hc;have d0:=hc.cell 0;simp at d0;have Hbs:=AD hbs;have Hk:=AD hk;clear hbs hc;go_wp2_with fail
   refine MM bs W hnd (fun b hb=>(Hbs.out b hb).2) (fun w' k=>?_);refine ⟨_,results_tmp rfl _ _ _,rfl,kA.trans_new ((Hk.out.mono (T':=w.heap.size :: bs) (by simp)).trans (k.mono (fun i hi=>by simp [hi]))) (fun i hi=>?_)⟩;rcases AJ.1 hi with rfl | hi
   ·exact .inr (AS _)
   ·exact .inr (by have:=(Hbs.out i hi).1;omega)
section
variable {w:World} {z eb bb:Nat} {B:SB} {S:ST} {gr cr:Nat} {rs:List A9} {tv mv:Value} {ka:Option Addr} {ks:List CluX} {kc:Nat} {m:Mean} {vals:List Nat} {Fs:Nat→List Nat→Prop} {rk:Nat→List Nat→Option Nat}
theorem EM.clok (h:EM w z bb B S gr cr rs tv mv ka ks kc m vals Fs rk) (hf:DI m):(∀ k∈ks,Jl rs k.c∧0<k.c.lits.length)∧ks.length≤52:=by
 have hat:∀ a,Ip m a→TP rs a:=fun a ha=>by
  obtain ⟨nm,cols,hc⟩:∃ nm cols,m.rels[a.rel]?=some (nm,cols):=⟨_,_,AB ha.rel⟩;obtain ⟨r,hr⟩:∃ r,rs[a.rel]?=some r:=⟨_,AB (by rw [h.len];exact ha.rel)⟩;have hn:=(h.rels _ r nm cols hr hc).1;have hp:=hf.cols _ (AF hc);have hl:=ha.len;have ec:m.cols a.rel=cols:=by simp [Mean.cols,hc]
  rw [ec] at hl;exact ⟨⟨r,hr,by omega,by rw [hn];exact hp⟩,ha.tms⟩
 refine ⟨fun k hk=>?_,?_⟩
 ·have:k.c∈m.clauses.filter C0:=by rw [←h.ksc];exact AR.2 ⟨k,hk,rfl⟩
  obtain ⟨h1,h2⟩:=Ap.1 this;exact ⟨⟨hat _ (hf.heads _ h1),fun l hl=>hat _ (hf.lits _ h1 l hl),hf.ok.lits _ h1⟩,by simpa [C0] using h2⟩
 ·have e:=congrArg List.length h.ksc;rw [AZ] at e;have:=BX C0 m.clauses;have:=hf.ok.clauses;omega
def LikeQ (rs rs':List A9):Prop:=rs'.length=rs.length∧∀ (j:Nat) (q:A9),rs'[j]?=some q→∃ p,rs[j]?=some p∧q.n=p.n∧q.layer=p.layer∧q.sa=p.sa
theorem LikeQ.refl (rs:List A9):LikeQ rs rs:=⟨rfl,fun _ q h=>⟨q,h,rfl,rfl,rfl⟩⟩
theorem LikeQ.trans {a b c:List A9} (h:LikeQ a b) (k:LikeQ b c):LikeQ a c:=⟨k.1.trans h.1,fun j q hq=>by
 obtain ⟨p,h1,h2,h3,h4⟩:=k.2 j q hq;obtain ⟨o,g1,g2,g3,g4⟩:=h.2 j p h1
 exact ⟨o,g1,h2.trans g2,h3.trans g3,h4.trans g4⟩⟩
theorem likeQ_set {rs rs':List A9} {i:Nat} {r:A9} {f:Int} (hi:rs[i]?=some r) (lk:DM (rs.set i { r with fa:=f }) rs'):LikeQ rs rs':=by
 refine ⟨by rw [lk.1,Ay],fun j q hq=>?_⟩;have hjl:=(AL.1 hq).1;rw [lk.1] at hjl;obtain ⟨q0,hq0⟩:∃ q0,(rs.set i { r with fa:=f })[j]?=some q0:=⟨_,AB hjl⟩;obtain ⟨q1,h1,h2⟩:=lk.2 j q0 hq0;rw [hq] at h1;cases h1;rw [Ay] at hjl;obtain ⟨p,hp⟩:∃ p,rs[j]?=some p:=⟨_,AB hjl⟩;have hs:q0.n=p.n∧q0.layer=p.layer∧q0.sa=p.sa:=by
  rw [Av] at hq0;by_cases e:i=j
  ·subst e;rw [if_pos rfl,if_pos hjl] at hq0;rw [hi] at hp;cases hp;cases hq0;exact ⟨rfl,rfl,rfl⟩
  ·rw [if_neg e,hp] at hq0;cases hq0;exact ⟨rfl,rfl,rfl⟩
 exact ⟨p,hp,h2.n.trans hs.1,h2.layer.trans hs.2.1,h2.sa.trans hs.2.2⟩
theorem EM.like (h:EM w z bb B S gr cr rs tv mv ka ks kc m vals Fs rk) {w':World} {S':ST} {rs':List A9} {Fs':Nat→List Nat→Prop} {rk':Nat→List Nat→Option Nat} (hb:FZ w' bb B S' gr cr rs' tv mv (.slice ka ks.length kc)) (lk:LikeQ rs rs') (ef:ftp B gr rs' = ftp B gr rs) (k:AA (ftp B gr rs) w w') (ha:ES S' rs' Fs' rk'):EM w' z bb B S' gr cr rs' tv mv ka ks kc m vals Fs' rk':=by
 refine ⟨hb,ha,by rw [ef];exact h.kls.keeps k (fun j hj=>.inl (AC.2 (.inr hj))),h.ksc,by rw [ef];exact h.set.keeps k (fun j hj=>.inl (AO _ hj)),by rw [ef];exact h.low,by rw [lk.1];exact h.len,fun j q nm cols hq hc=>?_⟩;obtain ⟨p,hp,e1,e2,e3⟩:=lk.2 j q hq;obtain ⟨a,b,g,c,d,e,row⟩:=h.rels j p nm cols hp hc;exact ⟨by rw [e1];exact a,by rw [e2];exact b,g,by rw [e3];exact c,by rw [ef];exact d,e,row.keepsE k (fun hm=>d (AO _ hm))⟩
theorem EM.chg (h:EM w z bb B S gr cr rs tv mv ka ks kc m vals Fs rk) {i:Nat} {r:A9} {f:Int} (hi:rs[i]?=some r) {w':World} {S':ST} {rs':List A9} {Fs':Nat→List Nat→Prop} {rk':Nat→List Nat→Option Nat} (hb:FZ w' bb B S' gr cr rs' tv mv (.slice ka ks.length kc)) (lk:DM (rs.set i { r with fa:=f }) rs') (k:AA (ftp B gr rs) w w') (ha:ES S' rs' Fs' rk'):EM w' z bb B S' gr cr rs' tv mv ka ks kc m vals Fs' rk'∧ftp B gr rs' = ftp B gr rs∧LikeQ rs rs':=by
 have ef:ftp B gr rs' = ftp B gr rs:=lk.ftp.trans (by unfold ftp;rw [KI hi f]);exact ⟨h.like hb (likeQ_set hi lk) ef k ha,ef,likeQ_set hi lk⟩
def lM (w:World) (z bb:Nat) (B:SB) (S:ST) (gr cr:Nat) (rs:List A9) (tv mv:Value) (ka:Option Addr) (ks:List CluX) (kc:Nat) (m:Mean) (vals:List Nat) (Fs:Nat→List Nat→Prop) (rk:Nat→List Nat→Option Nat) (i:Nat) (l:List Nat) (e:Ending) (w':World):Prop:=
 (∃ c:Int,e=.returned (.int .i64 c)∧((c=7∧Fs i l)∨(c=6∧¬ Fs i l∧factN S rs=60))∧AA [] w w') ∨
 (e=.returned (.int .i64 0)∧¬ Fs i l∧∃ S' rs' rk',EM w' z bb B S' gr cr rs' tv mv ka ks kc m vals (Xc Fs i (fun t=>Fs i t∨t=l)) rk'∧(ftp B gr rs' = ftp B gr rs∧LikeQ rs rs')∧S'.next≤S.next+200000000200000∧AA (ftp B gr rs) w w'∧EL rs' (Xc Fs i (fun t=>Fs i t∨t=l)) ks (vals.getD i 0) rk rs'.length rk')
theorem VU (h:EM w z bb B S gr cr rs tv mv ka ks kc m vals Fs rk) (hf:DI m) (he:AM w eb #[.pointer (some ⟨bb,0,none⟩)]) {s:ByteArray} {i:Nat} (hs:Dc (m.rels.map Prod.fst) s=some i) {g cap:Nat} {l:List Nat} (hrow:Bt w g (J2 l)) (hg:g∉B.own) (ht:Nv m i l) (hlay:vals.getD i 0≤m.rels.length) (hn:S.next+250000000200000<Fq) :
  Calls prog 27 #[.pointer (some ⟨eb,0,none⟩),.string s,.slice (some ⟨g,0,none⟩) l.length cap] w (lM w z bb B S gr cr rs tv mv ka ks kc m vals Fs rk i l):=by
 obtain ⟨r,hr,hal⟩:∃ r,rs[i]?=some r∧l∈C7 r.n:=by
  obtain ⟨r,gs,ss,hr,_,_,_,_,_,hal⟩:=h.tup hf.ok ht;exact ⟨r,hr,hal⟩
 obtain ⟨nm,cols,hc⟩:∃ nm cols,m.rels[i]?=some (nm,cols):=let ⟨a,b,c,_⟩:=ht.rel;⟨a,b,c⟩;have hrl:=(h.rels i r nm cols hr hc).2.1;have hpl:=AD (Ig (cap:=cap) h hf.ok he hs hrow ht);have hif:=AD (fun (W:World) (k:AA [] w W)=>Nh (cap:=cap) (h.bse.keeps0 k) h.all hr (hrow.keepsE k) hal);have hfc:=AD (fun (W:World) (k:AA [] w W)=>callsIn_wide.1 (dW (h.bse.keeps0 k) h.all));have hck:=h.clok hf;have had:=AD (fun (W:World) (k:AA [] w W)=>XS (cap:=cap) (h.bse.keeps0 k) h.all ((h.kls.keeps k).sub (fun j hj=>AC.2 (.inr hj))) hck.1 hck.2 hr (by rw [hrl,h.len];exact hlay) (hrow.keepsE k) hg ((FH.1 hal).1) ((FH.1 hal).2) hn);have Hch:=AD (fun (W:World) (k:AA [] w W)=>AU (h.keeps0 k) hr);have Hrl:=AD hrl;have Hlen:=AD h.len;have e0:=he.cell 0;simp at e0;have hN:factN S rs≤3072:=by
  have:=M8 S rs h.bse.cols;have:=h.bse.few;omega
 generalize hNe:factN S rs=N at *;have HNe:=AD hNe;clear hs h hf ht hrow hal hr hck hc hlay hn hg hrl hNe;go_in
 go_wp2_with fail
 refine hpl.out.mono ?_;rintro e w1 ⟨rfl,k1⟩;have e1:=(he.keeps k1).cell 0;simp at e1;go_wp2_with fail
 refine (hif.out _ k1).mono ?_;rintro e w2 ⟨⟨b,rfl,hb⟩,k2⟩;have k12:=k1.trans k2;have e2:=(he.keeps k12).cell 0;simp at e2;cases b with
 | true=>
  have hF:=AD (hb.1 rfl);clear hb;go_wp2_with fail
  go_ret
  exact .inl ⟨7,rfl,.inl ⟨rfl,hF.out⟩,k12⟩
 | false=>
  have hF:Hid (¬ Fs i l):=AD (fun q=>by have:=hb.2 q;cases this);clear hb;go_wp2_with fail
  refine (hfc.out _ k12).mono ?_;rintro e w3 ⟨rfl,k3⟩;have k13:=k12.trans k3;have e3:=(he.keeps k13).cell 0;simp at e3;by_cases h60:N=60
  ·subst h60;go_wp2_with fail
   go_ret
   exact .inl ⟨6,rfl,.inr ⟨rfl,hF.out,HNe.out⟩,k13⟩
  ·have h60I:¬ (N:Int)=60:=(by omega);go_wp2_with fail
   refine (had.out _ k13).mono ?_;rintro e w4 ⟨rfl,f,rs',S',rk',h1,h2,h3,h4,h5,h6⟩;obtain ⟨q1,q2⟩:=(Hch.out _ k13).1.chg (Hch.out _ k13).2 h1 h2 h3 h5;have Hfin:=AD (AU q1 (AU q2 (AU h4 (AU h6 (AU h2 h3)))));clear q1 q2 h1 h2 h3 h4 h5 h6;go_wp2_with fail
   go_ret
   obtain ⟨q1,q2,h4,h6,h2,h3⟩:=Hfin.out;have h7:=h6.like h2;refine .inr ⟨rfl,hF.out,S',rs',rk',q1,q2,h4,(k13.mono (by simp)).trans h3,?_⟩;rw [h2.1,Ay];rw [Hrl.out] at h7;exact h7
end
section
variable {w:World} {z eb bb:Nat} {B:SB} {S:ST} {gr cr:Nat} {rs:List A9} {tv mv:Value} {ka:Option Addr} {ks:List CluX} {kc:Nat} {m:Mean} {vals:List Nat} {Fs:Nat→List Nat→Prop} {rk:Nat→List Nat→Option Nat}
def nO (w:World) (z bb:Nat) (B:SB) (S:ST) (gr cr:Nat) (rs:List A9) (tv mv:Value) (ka:Option Addr) (ks:List CluX) (kc:Nat) (m:Mean) (vals:List Nat) (Fs:Nat→List Nat→Prop) (rk:Nat→List Nat→Option Nat) (i:Nat) (l:List Nat) (e:Ending) (w':World):Prop:=
 (e=.returned (.int .i64 14)∧¬ Fs i l∧AA [] w w') ∨
 (e=.returned (.int .i64 0)∧Fs i l∧∃ S' rs' rk',EM w' z bb B S' gr cr rs' tv mv ka ks kc m vals (Xc Fs i (fun t=>Fs i t∧¬ t=l)) rk'∧(ftp B gr rs' = ftp B gr rs∧LikeQ rs rs')∧S'.next≤S.next+200000000200000∧AA (ftp B gr rs) w w'∧EL rs' (Xc Fs i (fun t=>Fs i t∧¬ t=l)) ks (vals.getD i 0) rk rs'.length rk')
theorem On (h:EM w z bb B S gr cr rs tv mv ka ks kc m vals Fs rk) (hf:DI m) (he:AM w eb #[.pointer (some ⟨bb,0,none⟩)]) {s:ByteArray} {i:Nat} (hs:Dc (m.rels.map Prod.fst) s=some i) {g cap:Nat} {l:List Nat} (hrow:Bt w g (J2 l)) (hg:g∉B.own) (ht:Nv m i l) (hlay:vals.getD i 0≤m.rels.length) (hn:S.next+250000000200000<Fq) :
  Calls prog 26 #[.pointer (some ⟨eb,0,none⟩),.string s,.slice (some ⟨g,0,none⟩) l.length cap] w (nO w z bb B S gr cr rs tv mv ka ks kc m vals Fs rk i l):=by
 obtain ⟨r,hr,hal⟩:∃ r,rs[i]?=some r∧l∈C7 r.n:=by
  obtain ⟨r,gs,ss,hr,_,_,_,_,_,hal⟩:=h.tup hf.ok ht;exact ⟨r,hr,hal⟩
 obtain ⟨nm,cols,hc⟩:∃ nm cols,m.rels[i]?=some (nm,cols):=let ⟨a,b,c,_⟩:=ht.rel;⟨a,b,c⟩;have hrl:=(h.rels i r nm cols hr hc).2.1;have hpl:=AD (Ig (cap:=cap) h hf.ok he hs hrow ht);have hif:=AD (fun (W:World) (k:AA [] w W)=>Nh (cap:=cap) (h.bse.keeps0 k) h.all hr (hrow.keepsE k) hal);have hck:=h.clok hf;have had:=AD (fun (W:World) (k:AA [] w W)=>QL (cap:=cap) (h.bse.keeps0 k) h.all ((h.kls.keeps k).sub (fun j hj=>AC.2 (.inr hj))) hck.1 hck.2 hr (by rw [hrl,h.len];exact hlay) (hrow.keepsE k) hg ((FH.1 hal).1) ((FH.1 hal).2) hn);have Hch:=AD (fun (W:World) (k:AA [] w W)=>AU (h.keeps0 k) hr);have Hrl:=AD hrl;have Hlen:=AD h.len;have e0:=he.cell 0;simp at e0;clear hs h hf ht hrow hal hr hck hc hlay hn hg hrl;go_in
 go_wp2_with fail
 refine hpl.out.mono ?_;rintro e w1 ⟨rfl,k1⟩;have e1:=(he.keeps k1).cell 0;simp at e1;go_wp2_with fail
 refine (hif.out _ k1).mono ?_;rintro e w2 ⟨⟨b,rfl,hb⟩,k2⟩;have k12:=k1.trans k2;have e2:=(he.keeps k12).cell 0;simp at e2;cases b with
 | false=>
  have hF:Hid (¬ Fs i l):=AD (fun q=>by have:=hb.2 q;cases this);clear hb;go_wp2_with fail
  go_ret
  exact .inl ⟨rfl,hF.out,k12⟩
 | true=>
  have hF:=AD (hb.1 rfl);clear hb;go_wp2_with fail
  refine (had.out _ k12).mono ?_;rintro e w4 ⟨rfl,f,rs',S',rk',h1,h2,h3,h4,h5,h6⟩;obtain ⟨q1,q2⟩:=(Hch.out _ k12).1.chg (Hch.out _ k12).2 h1 h2 h3 h5;have Hfin:=AD (AU q1 (AU q2 (AU h4 (AU h6 (AU h2 h3)))));clear q1 q2 h1 h2 h3 h4 h5 h6;go_wp2_with fail
  go_ret
  obtain ⟨q1,q2,h4,h6,h2,h3⟩:=Hfin.out;have h7:=h6.like h2;refine .inr ⟨rfl,hF.out,S',rs',rk',q1,q2,h4,(k12.mono (by simp)).trans h3,?_⟩;rw [h2.1,Ay];rw [Hrl.out] at h7;exact h7
end
end
end Go.Proofs.YtgjomknpjigkhaaGreatDoor
