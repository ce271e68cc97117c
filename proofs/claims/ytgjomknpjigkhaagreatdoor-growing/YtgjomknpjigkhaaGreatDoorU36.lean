import Derived.Test.YtgjomknpjigkhaaGreatDoorU31
namespace Go.Proofs.YtgjomknpjigkhaaGreatDoor
open Go.Proofs.Tryz
set_option maxRecDepth 100000
set_option maxHeartbeats 4000000
section
open Go.RowKit
section
variable {P:Program} {ops:Array Oper} {Q:Exit→Act→World→Prop} {md:Region.Mode} {S:World→Prop} {z:Nat}
def pathB (md:Region.Mode) (ops:Array Oper) (listed:Array Bool):List Nat→Nat→Bool
 | [],_=>true
 | [p],i=>lQG md ops p i && !listed.getD p true
 | p :: q :: ps,i=>lQG md ops p q && !listed.getD p true && pathB md ops listed (q :: ps) i
theorem not_ready' {p i:Nat} {listed:Array Bool} (h:lQG md ops p i=true) (h0:listed.getD i true=false):p∉Region.ready md ops listed:=by
 intro hz;obtain ⟨_,o,ho,hall⟩:=mem_ready.1 hz;unfold lQG at h;rw [ho] at h;simp only [Option.map_some,Option.getD_some,List.any_eq_true] at h;obtain ⟨e,he',hb⟩:=h;have he:e∈o.after:=by simpa using he'
 rw [Bool.and_eq_true] at hb;have h1:=hall e he hb.1;have e1:e.on=i:=by simpa using hb.2
 rw [e1] at h1;rcases Nat.lt_or_ge i listed.size with q | q
 ·simp [q] at h0 h1;rw [h0] at h1;cases h1
 ·simp [Array.getElem?_eq_none q] at h1
theorem path_head {p:Nat} {ps:List Nat} {i:Nat} {listed:Array Bool} (h:pathB md ops listed (p :: ps) i=true):listed.getD p true=false:=by
 cases ps with
 | nil=>simp only [pathB,Bool.and_eq_true,Bool.not_eq_true'] at h;exact h.2
 | cons q ps=>simp only [pathB,Bool.and_eq_true,Bool.not_eq_true'] at h;exact h.1.2
theorem path_no:∀ (ps:List Nat) {i:Nat} {listed:Array Bool},pathB md ops listed ps i=true→listed.getD i true=false→∀ p∈ps,p∉Region.ready md ops listed
 | [],_,_,_,_,p,hp=>by cases hp
 | [q],i,listed,h,h0,p,hp=>by
  simp only [List.mem_singleton] at hp;subst hp;simp only [pathB,Bool.and_eq_true] at h;exact not_ready' h.1 h0
 | q :: r :: ps,i,listed,h,h0,p,hp=>by
  have h2:=h;simp only [pathB,Bool.and_eq_true] at h;rcases List.mem_cons.1 hp with rfl | hp
  ·exact not_ready' h.1.1 (path_head h.2)
  ·exact path_no (r :: ps) h.2 h0 p hp
theorem path_keep:∀ (ps:List Nat) {i j:Nat} {listed:Array Bool},pathB md ops listed ps i=true→j∉ps→pathB md ops (listed.setIfInBounds j true) ps i=true
 | [],_,_,_,_,_=>rfl
 | [q],i,j,listed,h,hj=>by
  simp only [pathB,Bool.and_eq_true] at h ⊢;exact ⟨h.1,by rw [getD_set_ne true (fun e=>hj (by simp [e]))];exact h.2⟩
 | q :: r :: ps,i,j,listed,h,hj=>by
  simp only [pathB,Bool.and_eq_true] at h ⊢;exact ⟨⟨h.1.1,by rw [getD_set_ne true (fun e=>hj (by simp [e]))];exact h.1.2⟩,path_keep (r :: ps) h.2 (fun e=>hj (List.mem_cons_of_mem _ e))⟩
theorem wpAnyZ_takeP0 {i:Nat} {oi:Oper} {v:Value} {ps:List Nat} (hzp:z∈ps) (hi:ops[i]?=some oi) (hsel:∀ (j:Nat) (o:Oper) cs b,ops[j]?=some o→o.op≠.select cs b) (hQ:∀ c a w,Q (.panic c) (a.put oi.dst v) w→Q (.panic c) a w):∀ (fuel:Nat) (listed:Array Bool) (a:Act) (w:World),pathB md ops listed ps i=true →
  (∀ j oj,ops[j]?=some oj→j≠i→listed.getD j true=false→(∀ e∈oj.after,Region.binds md e=true→e.on≠i)→oi.apart ops oj=true)→i∈Region.ready md ops listed→YieldsIf P ops S oi v a→S w→wQE P md ops Q S z fuel (listed.setIfInBounds i true) (a.put oi.dst v) w→wQE P md ops Q S z (fuel+1) listed a w:=by
 intro fuel;induction fuel with
 | zero=>
  intro listed a w _ _ hr hy hS H;refine ⟨fun h=>(by rw [h] at hr;cases hr),fun j hj=>?_⟩;by_cases e:j=i
  ·subst e;exact hy.wpOp hi hS ⟨fun _=>hS,H⟩
  ·have:=ready_mono hj e;rw [H.1] at this;cases this
 | succ fuel ih=>
  intro listed a w hpath hfree hr hy hS H;refine ⟨fun h=>(by rw [h] at hr;cases hr),fun j hj=>?_⟩;by_cases e:j=i
  ·subst e;exact hy.wpOp hi hS ⟨fun _=>hS,H⟩
  ·have hjp:j∉ps:=fun q=>path_no ps hpath (mem_ready.1 hr).1 j q hj;have hjz:j≠z:=fun q=>hjp (q ▸ hzp);have hstep:=H.2 j (ready_mono hj e);obtain ⟨hun,oj,hoj,hall⟩:=mem_ready.1 hj;have hno:∀ x∈oj.after,Region.binds md x=true→x.on≠i:=fun x hx hb q=>by
    have h1:=hall x hx hb;have h0:=(mem_ready.1 hr).1;rw [q] at h1;rcases Nat.lt_or_ge i listed.size with h' | h'
    ·simp [h'] at h0 h1;rw [h0] at h1;cases h1
    ·simp [Array.getElem?_eq_none h'] at h1
   have hput:=wpOp_putIf hoj (hfree j oj hoj e hun hno) (fun cs b=>hsel i oi cs b hi) (fun cs b=>hsel j oj cs b hoj) hQ hy hstep;refine wpOp_mono (fun a' w' q=>⟨fun _=>q.2.1 hjz,ih (listed.setIfInBounds j true) a' w' (path_keep ps hpath hjp) (fun k ok hk hki hkun hkno=>hfree k ok hk hki ?_ hkno) (ready_mono hr (Ne.symm e)) q.1 (q.2.1 hjz) ?_⟩) hput
   ·by_cases hjk:j=k
    ·subst hjk;exact hun
    ·rw [getD_set_ne true hjk] at hkun;exact hkun
   ·rw [Array.setIfInBounds_comm _ _ e];exact q.2.2
theorem gQB {l r:List Oper} (ps:List Nat) (i:Nat) {oi:Oper} {v:Value} {fuel:Nat} {listed:Array Bool} {a:Act} {w:World} (hzp:z∈ps) (hp:pathB md l.toArray listed ps i=true) (hi:l.drop i=oi :: r) (hs:Region.noSelect l.toArray=true) (hf:Region.free md l.toArray listed i=true) (hr:(Region.ready md l.toArray listed).contains i=true) (hQ:∀ c a w,Q (.panic c) (a.put oi.dst v) w→Q (.panic c) a w) (hy:YieldsIf P l.toArray S oi v a) (hS:S w) (h:wQE P md l.toArray Q S z fuel (listed.setIfInBounds i true) (a.put oi.dst v) w):wQE P md l.toArray Q S z (fuel+1) listed a w:=by
 have hi':l.toArray[i]?=some oi:=by
  have:l[i]?=some oi:=by
   have e:=List.getElem?_drop (xs:=l) (i:=i) (j:=0);rw [hi] at e;simpa using e.symm
  simpa using this
 exact wpAnyZ_takeP0 hzp hi' (Region.noSelect_spec hs) hQ fuel listed a w hp (Region.free_spec hi' hf) (by simpa using hr) hy hS h
end
def ChgTo (bb gr cr:Nat) (B:SB) (rs:List RelX) (x0 x1 x3:Value) (Fs:Nat→List Nat→Prop) (ks:List CluX) (i:Nat) (r:RelX) (rks:Nat→List Nat→Option Nat) (w:World) (S:ST) (e:Ending) (w':World):Prop:=
 e=.returned (.tuple #[])∧∃ f rs' S' rk',Bse w' bb B S' gr cr rs' x0 x1 x3∧nQC (rs.set i { r with fa:=f }) rs'∧aQA (ftp B gr rs) w w'∧S'.next≤S.next+200000000200000∧AllS S' rs' Fs rk'∧cQE (rs.set i { r with fa:=f }) Fs ks r.layer rks rs.length rk'
theorem addF_calls {w:World} {bb gr cr:Nat} {B:SB} {S:ST} {rs:List RelX} {x0 x1:Value} {ka:Option Addr} {ks:List CluX} {kc:Nat} (h:Bse w bb B S gr cr rs x0 x1 (.slice ka ks.length kc)) {Fs:Nat→List Nat→Prop} {rks:Nat→List Nat→Option Nat} (ha:AllS S rs Fs rks) (hks:KlsAt w (ftp B gr rs) ka ks) (hok:∀ k∈ks,ClOk rs k.c∧0<k.c.lits.length) (h52:ks.length≤52) {i:Nat} {r:RelX} (hi:rs[i]?=some r) (hlay:r.layer≤rs.length) {g cap:Nat} {l:List Nat} (hrow:lQB w g (dgs l)) (hg:g∉B.own) (hll:l.length=r.n) (hd:∀ x∈l,x<8) (hl:S.next+250000000200000<lim) :
  Calls prog 50 #[.pointer (some ⟨bb,0,none⟩),.int .i64 (i:Int),.slice (some ⟨g,0,none⟩) l.length cap] w (ChgTo bb gr cr B rs x0 x1 (.slice ka ks.length kc) (upF Fs i (fun t=>Fs i t∨t=l)) ks i r rks w S):=by
 have hil:=(List.getElem?_eq_some_iff.1 hi).1;have hiI:(i:Int)<rs.length:=by omega
 have hn3:=h.cols r (List.mem_of_getElem? hi);obtain ⟨cs,hc,hcs⟩:=h.rel;have hal:=hide (fun (W:World) (k:aQA [] w W)=>alone_calls (cap:=cap) (h.keeps0 k) (hrow.keepsE k (by simp)) hg (by omega) hd (by omega))
 have h7:=hide (fun (W7:World) (k:aQA B.own w.drew W7)=>
  let hb7:=(h.cells.keeps (aQA.drew [] w) (by simp)).keeps k h.bbB;let hg7:=(hc.keeps (aQA.drew [] w) (by simp)).keeps k h.grB
  And.intro (show W7.cell? ⟨bb,2,none⟩=some (.slice (some ⟨gr,0,none⟩) rs.length cr) from by have:=hb7.cell 2;simpa using this) <| And.intro (show W7.cell? ⟨bb,4,none⟩=some (.pointer (some ⟨B.b,0,none⟩)) from by have:=hb7.cell 4;simpa using this) (show W7.cell? ⟨gr,i * 5+2,none⟩=some (.int .i64 r.fa) from by rw [hg7.cell];exact (hcs i r hi).c2))
 have hE:=h.eng;have hRf:=(ha i r hi).fa;have Hl:=hide hl;have Hll:=hide hll
 have Hset:=hide (fun (W6:World) (S6:ST) (f:Int) (F:List Nat→Prop) (hE6:EngS W6 B S6) (k:aQA B.own w.drew W6) (x:Ext S S6) (hn:S6.next≤S.next+130000) (hF:Rep S6 f r.n F)=>
  let kw:=((aQA.drew [] w).mono (by simp)).trans k
  setFa_calls ((h.store kw hE6)) (ha.ext x h.eng.wf hE6.wf) (hks.keeps kw (fun j hj=>.inl (eQC hj))) hok h52 hi hlay hF (by omega))
 have Hmap:=hide (setFa_rm hi);have HF1:=hide (h7.out w.drew (aQA.refl _ _));clear hl hll hi hks hok ha hc hcs;go_enter func50,ntmps50
 go_upto_region 0 with fail
 refine tQG 18 (fun w'=>w'.cell? ⟨bb,2,none⟩=some (.slice (some ⟨gr,0,none⟩) rs.length cr)∧w'.cell? ⟨bb,4,none⟩=some (.pointer (some ⟨B.b,0,none⟩))∧w'.cell? ⟨gr,i * 5+2,none⟩=some (.int .i64 r.fa)) (by kernel_rfl) ?_;refine gQB [18] 0 (v:=?_) (by decide) (by kernel_rfl) rfl (by kernel_rfl) (by kernel_rfl) (by kernel_rfl) (fun _ _ _ h=>h) (Or.inl ⟨by rfl,?_⟩) HF1.out ?_;rotate_left
 ·(intro w' hSw;obtain ⟨s0,s1,s2⟩:=hSw;go_simp;try with_reducible rfl)
 simp only [Act.put,List.setIfInBounds_toArray,List.set_cons_zero,List.set_cons_succ];refine gQB [18] 1 (v:=?_) (by decide) (by kernel_rfl) rfl (by kernel_rfl) (by kernel_rfl) (by kernel_rfl) (fun _ _ _ h=>h) (Or.inl ⟨by rfl,?_⟩) HF1.out ?_;rotate_left
 ·(intro w' hSw;obtain ⟨s0,s1,s2⟩:=hSw;go_simp;try with_reducible rfl)
 simp only [Act.put,List.setIfInBounds_toArray,List.set_cons_zero,List.set_cons_succ];refine gQB [18,17,5,4,3] 2 (v:=?_) (by decide) (by kernel_rfl) rfl (by kernel_rfl) (by kernel_rfl) (by kernel_rfl) (fun _ _ _ h=>h) (Or.inl ⟨by rfl,?_⟩) HF1.out ?_;rotate_left
 ·(intro w' hSw;obtain ⟨s0,s1,s2⟩:=hSw;go_simp;try with_reducible rfl)
 simp only [Act.put,List.setIfInBounds_toArray,List.set_cons_zero,List.set_cons_succ];refine gQB [18,17,5,4] 3 (v:=?_) (by decide) (by kernel_rfl) rfl (by kernel_rfl) (by kernel_rfl) (by kernel_rfl) (fun _ _ _ h=>h) (Or.inl ⟨by rfl,?_⟩) HF1.out ?_;rotate_left
 ·(intro w' hSw;obtain ⟨s0,s1,s2⟩:=hSw;go_simp;try with_reducible rfl)
 simp only [Act.put,List.setIfInBounds_toArray,List.set_cons_zero,List.set_cons_succ];refine gQB [18,17,5] 4 (v:=?_) (by decide) (by kernel_rfl) rfl (by kernel_rfl) (by kernel_rfl) (by kernel_rfl) (fun _ _ _ h=>h) (Or.inl ⟨by rfl,?_⟩) HF1.out ?_;rotate_left
 ·(intro w' hSw;obtain ⟨s0,s1,s2⟩:=hSw;go_simp;try with_reducible rfl)
 simp only [Act.put,List.setIfInBounds_toArray,List.set_cons_zero,List.set_cons_succ];refine gQB [18,17] 5 (v:=?_) (by decide) (by kernel_rfl) rfl (by kernel_rfl) (by kernel_rfl) (by kernel_rfl) (fun _ _ _ h=>h) (Or.inl ⟨by rfl,?_⟩) HF1.out ?_;rotate_left
 ·(intro w' hSw;obtain ⟨s0,s1,s2⟩:=hSw;go_simp;try with_reducible rfl)
 simp only [Act.put,List.setIfInBounds_toArray,List.set_cons_zero,List.set_cons_succ];refine gQB [18,17,13,12,11,9,8,7] 6 (v:=?_) (by decide) (by kernel_rfl) rfl (by kernel_rfl) (by kernel_rfl) (by kernel_rfl) (fun _ _ _ h=>h) (Or.inl ⟨by rfl,?_⟩) HF1.out ?_;rotate_left
 ·(intro w' hSw;obtain ⟨s0,s1,s2⟩:=hSw;go_simp;try with_reducible rfl)
 simp only [Act.put,List.setIfInBounds_toArray,List.set_cons_zero,List.set_cons_succ];refine gQB [18,17,13,12,11,9,8] 7 (v:=?_) (by decide) (by kernel_rfl) rfl (by kernel_rfl) (by kernel_rfl) (by kernel_rfl) (fun _ _ _ h=>h) (Or.inl ⟨by rfl,?_⟩) HF1.out ?_;rotate_left
 ·(intro w' hSw;obtain ⟨s0,s1,s2⟩:=hSw;go_simp;try with_reducible rfl)
 simp only [Act.put,List.setIfInBounds_toArray,List.set_cons_zero,List.set_cons_succ];refine gQB [18,17,13,12,11,9] 8 (v:=?_) (by decide) (by kernel_rfl) rfl (by kernel_rfl) (by kernel_rfl) (by kernel_rfl) (fun _ _ _ h=>h) (Or.inl ⟨by rfl,?_⟩) HF1.out ?_;rotate_left
 ·(intro w' hSw;obtain ⟨s0,s1,s2⟩:=hSw;go_simp;try with_reducible rfl)
 simp only [Act.put,List.setIfInBounds_toArray,List.set_cons_zero,List.set_cons_succ];refine gQB [18,17,13,12,11] 9 (v:=?_) (by decide) (by kernel_rfl) rfl (by kernel_rfl) (by kernel_rfl) (by kernel_rfl) (fun _ _ _ h=>h) (Or.inl ⟨by rfl,?_⟩) HF1.out ?_;rotate_left
 ·(intro w' hSw;obtain ⟨s0,s1,s2⟩:=hSw;go_simp;try with_reducible rfl)
 simp only [Act.put,List.setIfInBounds_toArray,List.set_cons_zero,List.set_cons_succ];refine gQB [18,17,13,12,11] 10 (v:=?_) (by decide) (by kernel_rfl) rfl (by kernel_rfl) (by kernel_rfl) (by kernel_rfl) (fun _ _ _ h=>h) (Or.inl ⟨by rfl,?_⟩) HF1.out ?_;rotate_left
 ·(intro w' hSw;obtain ⟨s0,s1,s2⟩:=hSw;go_simp;try with_reducible rfl)
 simp only [Act.put,List.setIfInBounds_toArray,List.set_cons_zero,List.set_cons_succ];refine gQB [18,17,13,12] 11 (v:=?_) (by decide) (by kernel_rfl) rfl (by kernel_rfl) (by kernel_rfl) (by kernel_rfl) (fun _ _ _ h=>h) (Or.inl ⟨by rfl,?_⟩) HF1.out ?_;rotate_left
 ·(intro w' hSw;obtain ⟨s0,s1,s2⟩:=hSw;go_simp;try with_reducible rfl)
 simp only [Act.put,List.setIfInBounds_toArray,List.set_cons_zero,List.set_cons_succ];refine gQB [18,17,13] 12 (v:=?_) (by decide) (by kernel_rfl) rfl (by kernel_rfl) (by kernel_rfl) (by kernel_rfl) (fun _ _ _ h=>h) (Or.inl ⟨by rfl,?_⟩) HF1.out ?_;rotate_left
 ·(intro w' hSw;obtain ⟨s0,s1,s2⟩:=hSw;go_simp;try with_reducible rfl)
 simp only [Act.put,List.setIfInBounds_toArray,List.set_cons_zero,List.set_cons_succ];refine gQB [18,17] 13 (v:=?_) (by decide) (by kernel_rfl) rfl (by kernel_rfl) (by kernel_rfl) (by kernel_rfl) (fun _ _ _ h=>h) (Or.inl ⟨by rfl,?_⟩) HF1.out ?_;rotate_left
 ·(intro w' hSw;obtain ⟨s0,s1,s2⟩:=hSw;go_simp;try with_reducible rfl)
 simp only [Act.put,List.setIfInBounds_toArray,List.set_cons_zero,List.set_cons_succ];refine gQB [18,17,16] 14 (v:=?_) (by decide) (by kernel_rfl) rfl (by kernel_rfl) (by kernel_rfl) (by kernel_rfl) (fun _ _ _ h=>h) (Or.inl ⟨by rfl,?_⟩) HF1.out ?_;rotate_left
 ·(intro w' hSw;obtain ⟨s0,s1,s2⟩:=hSw;go_simp;try with_reducible rfl)
 simp only [Act.put,List.setIfInBounds_toArray,List.set_cons_zero,List.set_cons_succ];refine gQB [18,17,16] 15 (v:=?_) (by decide) (by kernel_rfl) rfl (by kernel_rfl) (by kernel_rfl) (by kernel_rfl) (fun _ _ _ h=>h) (Or.inl ⟨by rfl,?_⟩) HF1.out ?_;rotate_left
 ·(intro w' hSw;obtain ⟨s0,s1,s2⟩:=hSw;go_simp;try with_reducible rfl)
 simp only [Act.put,List.setIfInBounds_toArray,List.set_cons_zero,List.set_cons_succ];refine rQA 16 (by kernel_rfl) rfl ?_;intro K hK;have HK:=hide hK;clear hK;refine kQA rfl 89 _ _ rfl _ func89 (by kernel_rfl) (by kernel_rfl) [.pointer (some ⟨bb,0,none⟩),.slice (some ⟨g,0,none⟩) l.length cap] rfl ?_;refine (hal.out _ (aQA.drew [] _)).mono ?_;rintro e W5 ⟨t,S5,rfl,hE5,k5,x5,n5,hr5⟩;refine HK.out _ _ (fun _=>h7.out W5 k5) ?_;clear HK;try simp only [Act.put,List.setIfInBounds_toArray,List.set_cons_zero,List.set_cons_succ]
 refine rQA 17 (by kernel_rfl) rfl ?_;intro K hK;have HK:=hide hK;clear hK;refine kQA rfl 73 _ _ rfl _ func73 (by kernel_rfl) (by kernel_rfl) [.pointer (some ⟨B.b,0,none⟩),.int .i64 r.fa,.int .i64 t] rfl ?_;refine (or_E hE5 (f:=r.fa) (g:=t) (RepB.ext ⟨hRf.1,hRf.2⟩ x5 hE.wf hE5.wf) ⟨hr5.1,hr5.2⟩ (by have:=Hl.out;omega)).mono ?_;rintro e W6 ⟨t6,S6,rfl,hE6,k6,x6,n6,hr6⟩;refine HK.out _ _ (fun _=>h7.out W6 (k5.trans k6)) ?_;clear HK;try simp only [Act.put,List.setIfInBounds_toArray,List.set_cons_zero,List.set_cons_succ]
 refine rQA 18 (by kernel_rfl) rfl ?_;intro K hK;have HK:=hide hK;clear hK;refine kQA rfl 87 _ _ rfl _ func87 (by kernel_rfl) (by kernel_rfl) [.pointer (some ⟨bb,0,none⟩),.int .i64 (i:Int),.int .i64 t6] rfl ?_;refine (Hset.out W6 S6 t6 (fun t=>Fs i t∨t=l) hE6 (k5.trans k6) (x5.trans x6) (by omega) ⟨hr6.1,fun σ=>by rw [hr6.2,←Hll.out]⟩).mono ?_;rintro e W9 ⟨rfl,rs',S',rk',h1,h2,h3,h4,h5,h6⟩;refine HK.out _ _ (fun h=>absurd rfl h) ?_;clear HK;refine uQG (by kernel_rfl) ?_;have eft:ftp B gr (rs.set i { r with fa:=t6 })=ftp B gr rs:=by unfold ftp;rw [Hmap.out t6]
 rw [eft] at h3;go_wp2_with fail
 go_end0
 exact ⟨rfl,t6,rs',S',rk',h1,h2,((((aQA.drew [] w).mono (by simp)).trans (k5.trans k6)).mono (fun j hj=>eQC hj)).trans h3,by omega,h5,by rw [List.length_set] at h6;exact h6⟩
end
section
open Go.RowKit
section
variable {w:World} {bb gr cr:Nat} {B:SB} {S:ST} {rs:List RelX} {x0 x1 x3:Value}
theorem isfact_says (h:Bse w bb B S gr cr rs x0 x1 x3) {Fs:Nat→List Nat→Prop} {rk:Nat→List Nat→Option Nat} (ha:AllS S rs Fs rk) {i:Nat} {r:RelX} (hi:rs[i]?=some r) {g cap:Nat} {l:List Nat} (hrow:lQB w g (dgs l)) (hl:l∈alls r.n) :
  Calls prog 47 #[.pointer (some ⟨bb,0,none⟩),.int .i64 (i:Int),.slice (some ⟨g,0,none⟩) l.length cap] w fun e w'=>(∃ b:Bool,e=.returned (.bool b)∧(b=true↔Fs i l))∧aQA [] w w':=by
 obtain ⟨hl1,hl2⟩:=pQG.1 hl;have hrm:=List.mem_of_getElem? hi;have hn3:=h.cols r hrm;have hfa:=(ha i r hi).fa;obtain ⟨cs,hc,hcs⟩:=h.rel;have hil:(i:Int)<rs.length:=by have:=(List.getElem?_eq_some_iff.1 hi).1;omega
 have g3:w.cell? ⟨gr,i * 5+2,none⟩=some (.int .i64 r.fa):=by rw [hc.cell];exact (hcs i r hi).c2
 have g2:=h.cells.cell 2;have g4:=h.cells.cell 4;simp at g2 g4;have hkeep:=hide (fun (W:World) (k:aQA [] w W)=>show W.cell? ⟨bb,2,none⟩=some (.slice (some ⟨gr,0,none⟩) rs.length cr)∧W.cell? ⟨bb,4,none⟩=some (.pointer (some ⟨B.b,0,none⟩))∧W.cell? ⟨gr,i * 5+2,none⟩=some (.int .i64 r.fa) from ⟨by have:=(h.cells.keeps k (by simp)).cell 2;simpa using this,by have:=(h.cells.keeps k (by simp)).cell 4;simpa using this,by rw [(hc.keeps k (by simp)).cell];exact (hcs i r hi).c2⟩);have hsm:asn l<4096:=by
  have h1:=asnF_few l 0;have h2:2 ^ (3 * (0+l.length))≤2 ^ 9:=Nat.pow_le_pow_right (by decide) (by omega);have h3:asnF l 0=asn l:=rfl;omega
 have has:=hide (fun (W:World) (k:aQA [] w W)=>assign_calls (w:=W) (cap:=cap) (hrow.keepsE k (by simp)) (by omega) hl2);have hev:=hide (fun (W:World) (k:aQA [] w W)=>eval_calls r.fa (asn l:Nat) ((h.eng.sat).keeps k (by simp)) h.eng.wf hfa.1 (by rw [h.eng.n];omega) (by omega) (by omega));have hval:(S.den r.fa (asg ((asn l:Nat):Int))=true↔Fs i l):=by
  rw [hfa.2];have:=iQJ 0 hl;rw [show tupF (asg ((asn l:Nat):Int)) 0 r.n=l from this]
 generalize S.den r.fa (asg ((asn l:Nat):Int))=b at *;clear hi hl hl1 hc hcs ha h hrow hfa;go_enter func47,ntmps47
 go_wp2_with fail
 go_region_held3 (fun w'=>w'.cell? ⟨bb,2,none⟩=some (.slice (some ⟨gr,0,none⟩) rs.length cr)∧w'.cell? ⟨bb,4,none⟩=some (.pointer (some ⟨B.b,0,none⟩))∧w'.cell? ⟨gr,i * 5+2,none⟩=some (.int .i64 r.fa)) (first | exact ⟨g2,g4,g3⟩ | exact ⟨a0,a1,a2⟩ | exact ⟨b0,b1,b2⟩)
  (first
  | (go_at_call 86
     refine (has.out _ (aQA.drew [] _)).mono ?_;rintro e W5 ⟨rfl,k5⟩
     obtain ⟨a0,a1,a2⟩:=hkeep.out W5 ((aQA.drew [] w).trans k5))
  | (go_at_call 85
     refine (hev.out _ ((aQA.drew [] w).trans k5)).mono ?_;rintro e W6 ⟨rfl,k6⟩
     obtain ⟨b0,b1,b2⟩:=hkeep.out W6 (((aQA.drew [] w).trans k5).trans k6)))
 all_goals
  go_wp2_with fail
  go_ret
  exact ⟨⟨b,rfl,hval⟩,((aQA.drew [] w).trans k5).trans k6⟩
end
end
section
open Go.RowKit Go.Shelf
attribute [local go_sem] Oper.semAt_some
def dQI (S:ST) (rs:List RelX):Nat:=(rs.map (fun r=>(S.trues r.fa (3 * r.n)).length)).sum
theorem trues_few (S:ST) (f:Int) {n:Nat} (h3:n≤3):(S.trues f (3 * n)).length≤512:=by
 have:=tupsOf_len S f h3;unfold hQJ at this;rwa [List.length_map] at this
theorem factN_snoc (S:ST) (rs:List RelX) {j:Nat} {r:RelX} (h:rs[j]?=some r):dQI S (rs.take (j+1))=dQI S (rs.take j)+(S.trues r.fa (3 * r.n)).length:=by
 rw [List.take_add_one,h];simp [dQI]
theorem factN_few (S:ST):∀ (rs:List RelX),(∀ r∈rs,r.n≤3)→dQI S rs≤512 * rs.length
 | [],_=>Nat.le_refl _
 | r :: rs,h=>by
  have h1:=factN_few S rs (fun x hx=>h x (by simp [hx]));have h2:=trues_few S r.fa (h r (by simp));unfold dQI at h1 ⊢;simp only [List.map_cons,List.sum_cons,List.length_cons];omega
def markD (b:Nat):Deferred:={ target:=.collected b,args:=#[] }
theorem leaves_marks {fn:Func} {tmps:Array Value} {R:Ending→World→Prop}:∀ (bs:List Nat) (w:World),bs.Nodup→(∀ b∈bs,w.heap[b]?=some (.deferred (some [])))→(∀ w',aQA bs w w'→LeavesIn Fence.wide 0 prog fn tmps R [] .returning w')→LeavesInM Fence.wide 0 prog fn tmps R (bs.map markD) .returning w
 | [],w,_,_,h=>h w (aQA.refl _ _)
 | b :: bs,w,hn,hb,h=>by
  have hn':=List.nodup_cons.1 hn;have kP:=aQA.putObj w b (.deferred none);refine ⟨by simp,.inl ⟨b,_,rfl,run_takeDeferred (hb b (by simp)),?_⟩⟩;refine leaves_marks bs _ hn'.2 (fun c hc=>?_) (fun w' k=>h w' ((kP.mono (by simp)).trans (k.mono (fun i hi=>by simp [hi]))));exact (World.putObj_heap_other (by intro e;subst e;exact hn'.1 hc)).trans (hb c (by simp [hc]))
theorem facts_in {w:World} {bb gr cr:Nat} {B:SB} {S:ST} {rs:List RelX} {x0 x1 x3:Value} (h:Bse w bb B S gr cr rs x0 x1 x3) {Fs:Nat→List Nat→Prop} {rk:Nat→List Nat→Option Nat} (ha:AllS S rs Fs rk) :
  CallsIn Fence.wide 0 prog 49 #[.pointer (some ⟨bb,0,none⟩)] w fun e w'=>e=.returned (.int .i64 ((dQI S rs:Nat):Int))∧aQA [] w w':=by
 have kA:=aQA.alloc [] w (.cells #[.int .i64 0] 3);have hA:=cQA.new w #[.int .i64 0] 3;have zA:=dQA w (.cells #[.int .i64 0] 3);have hbA:=h.keeps0 kA;have b2:=hbA.cells.cell 2;simp at b2;have h6:=h.few;have hbl:=h.cells.lt;have hno:=h.eng.sat.fresh (Nat.le_refl w.heap.size);refine callsIn_of_wp_marks func49 rfl trivial ?_ rfl;simp only [ntmps49,List.size_toArray,List.length_cons,List.length_nil,Nat.reduceAdd,Nat.reduceSub,Array.replicate_succ,Array.replicate_zero,List.push_toArray,List.append_toArray,List.nil_append,List.cons_append];refine wpIn_wide.2 ?_;go_wp2_with fail
 generalize hWA:w.alloc (.cells #[.int .i64 0] 3)=WA at *;refine (wpIn_wide (n:=0)).1 ?_;refine wpIn_loop (fun a W=>∃ (j:Nat) (bs:List Nat) (u4 u5 u12 u13 u14 u15 u16 u17 u18 u19 u20 u21 u22 u23 u24 u25 u26 u27 u28 u29 u30 u34:Value),a={ tmps:=#[.pointer (some ⟨bb,0,none⟩),undef,.int .i64 0,.pointer (some ⟨w.heap.size,0,none⟩),u4,u5,.pointer (some ⟨bb,0,none⟩),.pointer (some ⟨bb,0,none⟩),.pointer (some ⟨bb,2,none⟩),.slice (some ⟨gr,0,none⟩) rs.length cr,.int .i64 (rs.length:Int),.int .i64 (j:Int),u12,u13,u14,u15,u16,u17,u18,u19,u20,u21,u22,u23,u24,u25,u26,u27,u28,u29,u30,undef,undef,undef,u34,undef],defers:=bs.map markD }∧j≤rs.length∧cQA W w.heap.size #[.int .i64 ((dQI S (rs.take j):Nat):Int)]∧aQA [w.heap.size] WA W∧bs.Nodup∧∀ b∈bs,WA.heap.size≤b∧W.heap[b]?=some (.deferred (some []))) (fun a _=>((rs.length:Int) - intOf (a.tmps.getD 11 undef)).toNat) ?_ ?_
 ·exact ⟨0,[],undef,undef,undef,undef,undef,undef,undef,undef,undef,undef,undef,undef,undef,undef,undef,undef,undef,undef,undef,undef,undef,undef,rfl,Nat.zero_le _,by simpa [dQI] using hA,aQA.refl _ _,List.nodup_nil,by simp⟩
 ·rintro a W ⟨j,bs,u4,u5,u12,u13,u14,u15,u16,u17,u18,u19,u20,u21,u22,u23,u24,u25,u26,u27,u28,u29,u30,u34,rfl,hj,hc,hk,hnd,hbs⟩;refine wpIn_wide.2 ?_;have hNb:dQI S (rs.take j)≤3072:=by
   have h1:=factN_few S (rs.take j) (fun r hr=>h.cols r (List.mem_of_mem_take hr));have h2:(rs.take j).length≤j:=by rw [List.length_take];omega
   omega
  by_cases hjn:j<rs.length
  ·have hjI:(j:Int)<rs.length:=(by omega);obtain ⟨r,hr⟩:∃ r,rs[j]?=some r:=⟨_,List.getElem?_eq_getElem hjn⟩;have hrm:=List.mem_of_getElem? hr;have hn3:=h.cols r hrm;obtain ⟨cs,hc0,hcs⟩:=h.rel;have hgl:=hc0.lt;have hgc:=(hc0.keeps kA (by simp)).keeps hk (by simp;omega);have hbc:=hbA.cells.keeps hk (by simp;omega);have hE:=hbA.eng.keeps hk (fun i hi hm=>hno (by simp only [List.mem_singleton] at hm;rw [←hm];exact hi));have g2:=hbc.cell 2;have g4:=hbc.cell 4;simp at g2 g4;have p0:W.cell? ⟨gr,j * 5,none⟩=some (.slice r.sa r.n r.cc):=by rw [hgc.cell];exact (hcs j r hr).c0
   have p2:W.cell? ⟨gr,j * 5+2,none⟩=some (.int .i64 r.fa):=by rw [hgc.cell];exact (hcs j r hr).c2
   have hv:=hide (lQL W.drew gr (j * 5) r.n r.sa r.cc (by omega) p0);have hfa:=(ha j r hr).fa;have hHk:=hfa.hk;have hk9:3 * r.n≤9:=(by omega);have hfn:=factN_snoc S rs hr;have hfew:=trues_few S r.fa hn3;have hWs:=hk.size;generalize hk3:3 * r.n=k at hv hHk hk9 hfn hfew ⊢;have Hfn:=hide hfn;have HNb:=hide hNb;have Hz:=hide zA;have Hbl:=hide hbl;clear hfn hNb zA hbl hk3 hgl;go_wp2_with fail
   refine vQE 10 (by kernel_rfl) (by kernel_rfl) ?_;simp only [List.take_succ_cons,List.take_zero,List.drop_succ_cons,List.drop_zero];repeat (first | go_big_quiet_step (fail) | (go_big_quiet_want;go_big_quiet_op;apply Exists.intro;refine And.intro (hv.out) ?_;go_big_quiet_on))
   refine wpQuiet_nil ?_;go_wp2_with fail
   refine (gQL _ _ _ _).mono ?_;rintro e W2 ⟨rfl,rfl⟩;go_wp2_with fail
   have kp:=aQA.alloc [] W (.cells #[.pointer (some ⟨B.b,0,none⟩)] 135);have hp:=cQA.new W #[.pointer (some ⟨B.b,0,none⟩)] 135;have kq:=aQA.alloc [] (W.alloc (.cells #[.pointer (some ⟨B.b,0,none⟩)] 135)) (.cells #[.int .i64 r.fa] 3);have hq:=cQA.new (W.alloc (.cells #[.pointer (some ⟨B.b,0,none⟩)] 135)) #[.int .i64 r.fa] 3;have ku:=aQA.alloc [] ((W.alloc (.cells #[.pointer (some ⟨B.b,0,none⟩)] 135)).alloc (.cells #[.int .i64 r.fa] 3)) (.cells #[.int .i64 (k:Int)] 3);have hu:=cQA.new ((W.alloc (.cells #[.pointer (some ⟨B.b,0,none⟩)] 135)).alloc (.cells #[.int .i64 r.fa] 3)) #[.int .i64 (k:Int)] 3;simp only [World.size_alloc] at hp hq hu;have kd:=aQA.drew [] (((W.alloc (.cells #[.pointer (some ⟨B.b,0,none⟩)] 135)).alloc (.cells #[.int .i64 r.fa] 3)).alloc (.cells #[.int .i64 (k:Int)] 3));have k4:=((kp.trans kq).trans ku).trans kd;have hp4:=((hp.keeps kq (by simp)).keeps ku (by simp)).keeps kd (by simp);have hq4:=(hq.keeps ku (by simp)).keeps kd (by simp);have hu4:=hu.keeps kd (by simp);have z4:((((W.alloc (.cells #[.pointer (some ⟨B.b,0,none⟩)] 135)).alloc (.cells #[.int .i64 r.fa] 3)).alloc (.cells #[.int .i64 (k:Int)] 3)).drew).heap.size=W.heap.size+1+1+1:=(by simp);clear kp kq ku kd hp hq hu;generalize (((W.alloc (.cells #[.pointer (some ⟨B.b,0,none⟩)] 135)).alloc (.cells #[.int .i64 r.fa] 3)).alloc (.cells #[.int .i64 (k:Int)] 3)).drew=W4 at *;have hE4:=hE.keeps0 k4;have hcn:=hc.keeps k4 (by simp);have hcl:w.heap.size<W.heap.size:=hc.lt
   have hit:=trues_iter hE4.sat hE4.wf hE4.idn hE4.ho hE4.n hE4.co (W.heap.size) (W.heap.size+1) (W.heap.size+1+1) r.fa k hp4 hq4 hu4 hfa.1 hHk hk9 [w.heap.size] (by
    intro t ht;simp only [List.mem_singleton] at ht;subst ht
    exact ⟨by omega,hno⟩)
   refine (wpIn_wide (n:=0)).1 ?_
   refine range_law (gf:=153) (lb:=#[.pointer (some ⟨W.heap.size,0,none⟩),.pointer (some ⟨W.heap.size+1,0,none⟩),.pointer (some ⟨W.heap.size+1+1,0,none⟩)]) rfl (enters_of func153 (by kernel_rfl) rfl) (T:=[w.heap.size]) (by simp;omega) hit (fun _=>rfl)
    (fun pre V=>cQA V w.heap.size #[.int .i64 ((dQI S (rs.take j)+pre.length:Nat):Int)])
    (fun pre W1 W2 h hb=>h.of_heap (hb.block _ (by omega))) (by simpa using hcn)
    (fun y a' V=>a' = { tmps:=#[.pointer (some ⟨bb,0,none⟩),undef,.int .i64 0,.pointer (some ⟨w.heap.size,0,none⟩),.int .i64 (j:Int),.pointer (some ⟨gr,j * 5,none⟩),.pointer (some ⟨bb,0,none⟩),.pointer (some ⟨bb,0,none⟩),.pointer (some ⟨bb,2,none⟩),.slice (some ⟨gr,0,none⟩) rs.length cr,.int .i64 (rs.length:Int),.int .i64 (j:Int),.bool true,.int .i64 (j:Int),.pointer (some ⟨bb,0,none⟩),.pointer (some ⟨bb,0,none⟩),.pointer (some ⟨bb,2,none⟩),.slice (some ⟨gr,0,none⟩) rs.length cr,.int .i64 (j:Int),.pointer (some ⟨gr,j * 5,none⟩),.pointer (some ⟨bb,0,none⟩),.pointer (some ⟨bb,0,none⟩),.pointer (some ⟨bb,4,none⟩),.pointer (some ⟨B.b,0,none⟩),.pointer (some ⟨gr,j * 5,none⟩),.pointer (some ⟨gr,j * 5,none⟩),.pointer (some ⟨gr,j * 5+2,none⟩),.int .i64 r.fa,.pointer (some ⟨gr,j * 5,none⟩),.int .i64 (k:Int),.func (.func 153) #[] #[.pointer (some ⟨W.heap.size,0,none⟩),.pointer (some ⟨W.heap.size+1,0,none⟩),.pointer (some ⟨W.heap.size+1+1,0,none⟩)],.int .i64 (y:Nat),undef,undef,u34,undef],defers:=[] }) (fun x a' W1 W2 h _=>h) ?assign ?body ?done
   case assign=>
    intro l pre y V K hlt hi hc hK;gi_wp2
    exact hK _ _ (by simp [eA]) (aQA.refl _ _)
   case body=>
    rintro l pre y a' V hlt i1 hcond rfl;have d0:V.cell? ⟨w.heap.size,0,none⟩=some (.int .i64 ((dQI S (rs.take j)+pre.length:Nat):Int)):=by rw [i1.cell];rfl
    have f0:=i1.frozen 0;have hpl:pre.length≤512:=by
     have:=hcond.length_le;rw [List.length_append] at this;omega
    have hb3:=HNb.out;have hS:=i1.setCell 0 (.int .i64 ((dQI S (rs.take j)+(pre++[y]).length:Nat):Int));have kS:=aQA.setCell V ⟨w.heap.size,0,none⟩ (.int .i64 ((dQI S (rs.take j)+(pre++[y]).length:Nat):Int));have eN:((dQI S (rs.take j)+(pre++[y]).length:Nat):Int)=((dQI S (rs.take j)+pre.length:Nat):Int)+1:=by simp;omega
    rw [eN] at hS kS;generalize hQ:((dQI S (rs.take j)+pre.length:Nat):Int)=q at *;have hq0:0≤q:=(by omega);have hq1:q≤4000:=(by omega);have Hfin:Hid (∀ a',bodyPostJ (fun V=>cQA V w.heap.size #[.int .i64 ((dQI S (rs.take j)+(pre++[y]).length:Nat):Int)]) [w.heap.size] V .normal a' (V.setCell ⟨w.heap.size,0,none⟩ (.int .i64 (q+1)))):=hide (fun a'=>⟨by rw [eN];simpa using hS,kS⟩);clear eN hS kS i1 hb3 hpl;dsimp only;gi_wp2
    exact Hfin.out { tmps:=#[],defers:=[] }
   case done=>
    rintro xs V rfl i1 hkV hlt hD;have kW:aQA [w.heap.size] WA V:=(hk.trans (k4.mono (by simp))).trans hkV;have hbs2:∀ b∈bs,WA.heap.size≤b∧V.heap[b]?=some (.deferred (some [])):=fun b hb=>by
     have h1:=hbs b hb;have h2:=(Array.getElem?_eq_some_iff.1 h1.2).1;refine ⟨h1.1,?_⟩;rw [hkV.block b (by omega) (by simp only [List.mem_singleton];have:=Hz.out;omega),k4.block b h2 (by simp)];exact h1.2
    have hnb:W4.heap.size∉bs:=fun hm=>by
     have:=(Array.getElem?_eq_some_iff.1 (hbs _ hm).2).1;omega
    have Hfin:=hide (And.intro i1 (And.intro kW (And.intro hbs2 hnb)));clear i1 kW hbs2 hnb;go_wp2_with fail
    obtain ⟨i1,kW,hbs2,hnb⟩:=Hfin.out;refine ⟨⟨j+1,W4.heap.size :: bs,_,_,_,_,_,_,_,_,_,_,_,_,_,_,_,_,_,_,_,_,_,_,rfl,by omega,by rw [Hfn.out];exact i1,kW,List.nodup_cons.2 ⟨hnb,hnd⟩,fun b hb=>?_⟩,?_⟩
    ·rcases List.mem_cons.1 hb with rfl | hb
     ·exact ⟨by omega,hD⟩
     ·exact hbs2 b hb
    ·simp [intOf];omega
  ·have hjI:¬ (j:Int)<rs.length:=(by omega);have ej:j=rs.length:=(by omega);subst ej;rw [List.take_length] at hc;have d0:=hc.cell 0;simp at d0;have Hbs:=hide hbs;have Hk:=hide hk;clear hbs hc;go_wp2_with fail
   refine leaves_marks bs W hnd (fun b hb=>(Hbs.out b hb).2) (fun w' k=>?_);refine ⟨_,results_tmp rfl _ _ _,rfl,kA.trans_new ((Hk.out.mono (T':=w.heap.size :: bs) (by simp)).trans (k.mono (fun i hi=>by simp [hi]))) (fun i hi=>?_)⟩;rcases List.mem_cons.1 hi with rfl | hi
   ·exact .inr (Nat.le_refl _)
   ·exact .inr (by have:=(Hbs.out i hi).1;omega)
end
section
open Go.RowKit Go.Shelf
attribute [local go_sem] Oper.semAt_some
section
variable {w:World} {z eb bb:Nat} {B:SB} {S:ST} {gr cr:Nat} {rs:List RelX} {tv mv:Value} {ka:Option Addr} {ks:List CluX} {kc:Nat} {m:Mean} {vals:List Nat} {Fs:Nat→List Nat→Prop} {rk:Nat→List Nat→Option Nat}
theorem tQF.clok (h:tQF w z bb B S gr cr rs tv mv ka ks kc m vals Fs rk) (hf:oQD m):(∀ k∈ks,ClOk rs k.c∧0<k.c.lits.length)∧ks.length≤52:=by
 have hat:∀ a,dQL m a→AtOk rs a:=fun a ha=>by
  obtain ⟨nm,cols,hc⟩:∃ nm cols,m.rels[a.rel]?=some (nm,cols):=⟨_,_,List.getElem?_eq_getElem ha.rel⟩;obtain ⟨r,hr⟩:∃ r,rs[a.rel]?=some r:=⟨_,List.getElem?_eq_getElem (by rw [h.len];exact ha.rel)⟩;have hn:=(h.rels _ r nm cols hr hc).1;have hp:=hf.cols _ (List.mem_of_getElem? hc);have hl:=ha.len;have ec:m.cols a.rel=cols:=by simp [Mean.cols,hc]
  rw [ec] at hl;exact ⟨⟨r,hr,by omega,by rw [hn];exact hp⟩,ha.tms⟩
 refine ⟨fun k hk=>?_,?_⟩
 ·have:k.c∈m.clauses.filter fQD:=by rw [←h.ksc];exact List.mem_map.2 ⟨k,hk,rfl⟩
  obtain ⟨h1,h2⟩:=List.mem_filter.1 this;exact ⟨⟨hat _ (hf.heads _ h1),fun l hl=>hat _ (hf.lits _ h1 l hl),hf.ok.lits _ h1⟩,by simpa [fQD] using h2⟩
 ·have e:=congrArg List.length h.ksc;rw [List.length_map] at e;have:=List.length_filter_le fQD m.clauses;have:=hf.ok.clauses;omega
theorem tQF.chg (h:tQF w z bb B S gr cr rs tv mv ka ks kc m vals Fs rk) {i:Nat} {r:RelX} {f:Int} (hi:rs[i]?=some r) {w':World} {S':ST} {rs':List RelX} {Fs':Nat→List Nat→Prop} {rk':Nat→List Nat→Option Nat} (hb:Bse w' bb B S' gr cr rs' tv mv (.slice ka ks.length kc)) (lk:nQC (rs.set i { r with fa:=f }) rs') (k:aQA (ftp B gr rs) w w') (ha:AllS S' rs' Fs' rk'):tQF w' z bb B S' gr cr rs' tv mv ka ks kc m vals Fs' rk'∧ftp B gr rs' = ftp B gr rs:=by
 have ef:ftp B gr rs' = ftp B gr rs:=lk.ftp.trans (by unfold ftp;rw [setFa_rm hi f]);refine ⟨⟨hb,ha,by rw [ef];exact h.kls.keeps k (fun j hj=>.inl (List.mem_append.2 (.inr hj))),h.ksc,by rw [ef];exact h.set.keeps k (fun j hj=>.inl (List.mem_cons_of_mem _ hj)),by rw [ef];exact h.low,by rw [lk.1,List.length_set];exact h.len,fun j q nm cols hq hc=>?_⟩,ef⟩;have hjl:=(List.getElem?_eq_some_iff.1 hq).1;rw [lk.1] at hjl;obtain ⟨q0,hq0⟩:∃ q0,(rs.set i { r with fa:=f })[j]?=some q0:=⟨_,List.getElem?_eq_getElem hjl⟩;obtain ⟨q1,h1,h2⟩:=lk.2 j q0 hq0;rw [hq] at h1;cases h1;rw [List.length_set] at hjl;obtain ⟨p,hp⟩:∃ p,rs[j]?=some p:=⟨_,List.getElem?_eq_getElem hjl⟩;have hs:q0.n=p.n∧q0.layer=p.layer∧q0.sa=p.sa:=by
  rw [List.getElem?_set] at hq0;by_cases e:i=j
  ·subst e;rw [if_pos rfl,if_pos hjl] at hq0;rw [hi] at hp;cases hp;cases hq0;exact ⟨rfl,rfl,rfl⟩
  ·rw [if_neg e,hp] at hq0;cases hq0;exact ⟨rfl,rfl,rfl⟩
 obtain ⟨a,b,g,c,d,e,row⟩:=h.rels j p nm cols hp hc;refine ⟨by rw [h2.n,hs.1];exact a,by rw [h2.layer,hs.2.1];exact b,g,by rw [h2.sa,hs.2.2];exact c,by rw [ef];exact d,e,row.keepsE k (fun hm=>d (List.mem_cons_of_mem _ hm))⟩
def AddedTo (w:World) (z bb:Nat) (B:SB) (S:ST) (gr cr:Nat) (rs:List RelX) (tv mv:Value) (ka:Option Addr) (ks:List CluX) (kc:Nat) (m:Mean) (vals:List Nat) (Fs:Nat→List Nat→Prop) (rk:Nat→List Nat→Option Nat) (i:Nat) (l:List Nat) (e:Ending) (w':World):Prop:=
 (∃ c:Int,e=.returned (.int .i64 c)∧((c=7∧Fs i l)∨(c=6∧¬ Fs i l∧dQI S rs=60))∧aQA [] w w') ∨
 (e=.returned (.int .i64 0)∧¬ Fs i l∧∃ S' rs' rk',tQF w' z bb B S' gr cr rs' tv mv ka ks kc m vals (upF Fs i (fun t=>Fs i t∨t=l)) rk'∧ftp B gr rs' = ftp B gr rs∧S'.next≤S.next+200000000200000∧aQA (ftp B gr rs) w w'∧cQE rs' (upF Fs i (fun t=>Fs i t∨t=l)) ks (vals.getD i 0) rk rs'.length rk')
theorem add27_calls (h:tQF w z bb B S gr cr rs tv mv ka ks kc m vals Fs rk) (hf:oQD m) (he:cQA w eb #[.pointer (some ⟨bb,0,none⟩)]) {s:ByteArray} {i:Nat} (hs:bQD (m.rels.map Prod.fst) s=some i) {g cap:Nat} {l:List Nat} (hrow:lQB w g (dgs l)) (hg:g∉B.own) (ht:TupOk m i l) (hlay:vals.getD i 0≤m.rels.length) (hn:S.next+250000000200000<lim) :
  Calls prog 27 #[.pointer (some ⟨eb,0,none⟩),.string s,.slice (some ⟨g,0,none⟩) l.length cap] w (AddedTo w z bb B S gr cr rs tv mv ka ks kc m vals Fs rk i l):=by
 obtain ⟨r,hr,hal⟩:∃ r,rs[i]?=some r∧l∈alls r.n:=by
  obtain ⟨r,gs,ss,hr,_,_,_,_,_,hal⟩:=h.tup hf.ok ht;exact ⟨r,hr,hal⟩
 obtain ⟨nm,cols,hc⟩:∃ nm cols,m.rels[i]?=some (nm,cols):=let ⟨a,b,c,_⟩:=ht.rel;⟨a,b,c⟩;have hrl:=(h.rels i r nm cols hr hc).2.1;have hpl:=hide (place46_calls (cap:=cap) h hf.ok he hs hrow ht);have hif:=hide (fun (W:World) (k:aQA [] w W)=>isfact_says (cap:=cap) (h.bse.keeps0 k) h.all hr (hrow.keepsE k (by simp)) hal);have hfc:=hide (fun (W:World) (k:aQA [] w W)=>callsIn_wide.1 (facts_in (h.bse.keeps0 k) h.all));have hck:=h.clok hf;have had:=hide (fun (W:World) (k:aQA [] w W)=>addF_calls (cap:=cap) (h.bse.keeps0 k) h.all ((h.kls.keeps k (by simp)).sub (fun j hj=>List.mem_append.2 (.inr hj))) hck.1 hck.2 hr (by rw [hrl,h.len];exact hlay) (hrow.keepsE k (by simp)) hg ((pQG.1 hal).1) ((pQG.1 hal).2) hn);have Hch:=hide (fun (W:World) (k:aQA [] w W)=>And.intro (h.keeps0 k) hr);have Hrl:=hide hrl;have Hlen:=hide h.len;have e0:=he.cell 0;simp at e0;have hN:dQI S rs≤3072:=by
  have:=factN_few S rs h.bse.cols;have:=h.bse.few;omega
 generalize hNe:dQI S rs=N at *;have HNe:=hide hNe;clear hs h hf ht hrow hal hr hck hc hlay hn hg hrl hNe;go_enter func27,ntmps27
 go_wp2_with fail
 refine hpl.out.mono ?_;rintro e w1 ⟨rfl,k1⟩;have e1:=(he.keeps k1 (by simp)).cell 0;simp at e1;go_wp2_with fail
 refine (hif.out _ k1).mono ?_;rintro e w2 ⟨⟨b,rfl,hb⟩,k2⟩;have k12:=k1.trans k2;have e2:=(he.keeps k12 (by simp)).cell 0;simp at e2;cases b with
 | true=>
  have hF:=hide (hb.1 rfl);clear hb;go_wp2_with fail
  go_ret
  exact .inl ⟨7,rfl,.inl ⟨rfl,hF.out⟩,k12⟩
 | false=>
  have hF:Hid (¬ Fs i l):=hide (fun q=>by have:=hb.2 q;cases this);clear hb;go_wp2_with fail
  refine (hfc.out _ k12).mono ?_;rintro e w3 ⟨rfl,k3⟩;have k13:=k12.trans k3;have e3:=(he.keeps k13 (by simp)).cell 0;simp at e3;by_cases h60:N=60
  ·subst h60;go_wp2_with fail
   go_ret
   exact .inl ⟨6,rfl,.inr ⟨rfl,hF.out,HNe.out⟩,k13⟩
  ·have h60I:¬ (N:Int)=60:=(by omega);go_wp2_with fail
   refine (had.out _ k13).mono ?_;rintro e w4 ⟨rfl,f,rs',S',rk',h1,h2,h3,h4,h5,h6⟩;obtain ⟨q1,q2⟩:=(Hch.out _ k13).1.chg (Hch.out _ k13).2 h1 h2 h3 h5;have Hfin:=hide (And.intro q1 (And.intro q2 (And.intro h4 (And.intro h6 (And.intro h2 h3)))));clear q1 q2 h1 h2 h3 h4 h5 h6;go_wp2_with fail
   go_ret
   obtain ⟨q1,q2,h4,h6,h2,h3⟩:=Hfin.out;have h7:=h6.like h2;refine .inr ⟨rfl,hF.out,S',rs',rk',q1,q2,h4,(k13.mono (by simp)).trans h3,?_⟩;rw [h2.1,List.length_set];rw [Hrl.out] at h7;exact h7
end
end
end Go.Proofs.YtgjomknpjigkhaaGreatDoor
