import Derived.Test.YtgjomknpjigkhaaGreatDoorU16
namespace Go.Proofs.YtgjomknpjigkhaaGreatDoor
open Go.Proofs.Tryz
set_option maxRecDepth 100000
set_option maxHeartbeats 4000000
section
open Go.RowKit
def beginC (cs:List iQA) (HS:Nat→List (List Nat→Prop)) (i:Nat) (l:List Nat):Prop:=∃ (p:Nat) (c:iQA),cs[p]?=some c∧c.head.rel=i∧bQK c.head.terms (fun ν=>allH (HS p) c.lits.length ν) l
def thenC (cs:List iQA) (HS:Nat→List (List Nat→Prop)) (Xf:Nat→List Nat→Prop) (i:Nat) (l:List Nat):Prop:=
 ∃ (p:Nat) (c:iQA) (k:Nat) (a:yQA×Bool),cs[p]?=some c∧c.head.rel=i∧c.lits[k]?=some a∧bQK c.head.terms (fun ν=>kQH Xf a ν∧allH (orTo (HS p) (c.lits.map (kQH Xf)) c.lits.length) c.lits.length ν) l
def hsC (cs:List iQA) (HS:Nat→List (List Nat→Prop)) (Xf:Nat→List Nat→Prop) (p:Nat):List (List Nat→Prop):=match cs[p]? with | some c=>orTo (HS p) (c.lits.map (kQH Xf)) c.lits.length | none=>HS p
theorem first_same {us:List RuX} {cs:List iQA} (hc:us.map (·.c)=cs) (hh:∀ u∈us,u.hs.length=u.c.lits.length) (HS:Nat→List (List Nat→Prop)) (i:Nat) (l:List Nat):qQK us HS us.length i l↔beginC cs HS i l:=by
 subst hc;constructor
 ·rintro ⟨p,u,_,h2,h3,h4⟩;exact ⟨p,u.c,by rw [List.getElem?_map,h2];rfl,h3,by rw [←hh u (List.mem_of_getElem? h2)];exact h4⟩
 ·rintro ⟨p,c,h2,h3,h4⟩;rw [List.getElem?_map] at h2;obtain ⟨u,hu,rfl⟩:=Option.map_eq_some_iff.1 h2;exact ⟨p,u,(List.getElem?_eq_some_iff.1 hu).1,hu,h3,by rw [hh u (List.mem_of_getElem? hu)];exact h4⟩
theorem next_same {us:List RuX} {cs:List iQA} (hc:us.map (·.c)=cs) (HS:Nat→List (List Nat→Prop)) (Xf:Nat→List Nat→Prop) (i:Nat) (l:List Nat):nextTo us HS Xf us.length 0 i l↔thenC cs HS Xf i l:=by
 subst hc;constructor
 ·rintro ⟨p,u,k,a,_,h2,h3,h4,h5⟩;exact ⟨p,u.c,k,a,by rw [List.getElem?_map,h2];rfl,h3,h4,h5⟩
 ·rintro ⟨p,c,k,a,h2,h3,h4,h5⟩;rw [List.getElem?_map] at h2;obtain ⟨u,hu,rfl⟩:=Option.map_eq_some_iff.1 h2;exact ⟨p,u,k,a,.inl (List.getElem?_eq_some_iff.1 hu).1,hu,h3,h4,h5⟩
theorem hs_same {us:List RuX} {cs:List iQA} (hc:us.map (·.c)=cs) (HS:Nat→List (List Nat→Prop)) (Xf:Nat→List Nat→Prop) (p:Nat):HSj us HS Xf us.length p=hsC cs HS Xf p:=by
 subst hc;unfold HSj hsC;rw [List.getElem?_map];split
 ·rename_i h;rw [List.getElem?_eq_getElem h];rfl
 ·rename_i h;rw [List.getElem?_eq_none (by omega)];rfl
structure Rnd where
 rk:Nat→List Nat→Option Nat
 hs:Nat→List (List Nat→Prop)
 x:Nat→List Nat→Prop
noncomputable def rnd (cs:List iQA) (n:Nat) (rk0:Nat→List Nat→Option Nat) (hs0:Nat→List (List Nat→Prop)):Nat→Rnd
 | 0=>⟨rk0,hs0,outX (beginC cs hs0) rk0 n⟩
 | t+1=>⟨uQD (rnd cs n rk0 hs0 t).rk (rnd cs n rk0 hs0 t).x (t+1) n,hsC cs (rnd cs n rk0 hs0 t).hs (rnd cs n rk0 hs0 t).x,outX (thenC cs (rnd cs n rk0 hs0 t).hs (rnd cs n rk0 hs0 t).x) (uQD (rnd cs n rk0 hs0 t).rk (rnd cs n rk0 hs0 t).x (t+1) n) n⟩
theorem rnd_out (cs:List iQA) (n:Nat) (rk0:Nat→List Nat→Option Nat) (hs0:Nat→List (List Nat→Prop)) (t:Nat) {i:Nat} {l:List Nat} (hi:i<n) (hx:(rnd cs n rk0 hs0 t).x i l):(rnd cs n rk0 hs0 t).rk i l=none:=by
 have h1:((rnd cs n rk0 hs0 t).rk i l).isSome≠true:=by
  cases t with
  | zero=>exact hx.2 hi
  | succ t=>exact hx.2 hi
 cases h:(rnd cs n rk0 hs0 t).rk i l with
 | none=>rfl
 | some m=>rw [h] at h1;simp at h1
def missOf (n:Nat) (rk:List Nat→Option Nat):Nat:=((alls n).filter (fun l=>(rk l).isNone)).length
def aQE (rks:Nat→List Nat→Option Nat):List Nat→Nat→Nat
 | [],_=>0
 | n :: ns,i=>missOf n (rks i)+aQE rks ns (i+1)
theorem filt_le {α:Type} {p q:α→Bool} (h:∀ x,p x=true→q x=true):∀ l:List α,(l.filter p).length≤(l.filter q).length
 | []=>Nat.le_refl _
 | a :: l=>by
  have ih:=filt_le h l;cases hp:p a
  ·cases hq:q a
   ·simpa [hp,hq] using ih
   ·simp only [List.filter_cons,hp,hq,if_true,List.length_cons];simp;omega
  ·have hq:=h a hp;simp only [List.filter_cons,hp,hq,if_true,List.length_cons];omega
theorem filt_lt {α:Type} {p q:α→Bool} (h:∀ x,p x=true→q x=true):∀ (l:List α) (x:α),x∈l→q x=true→p x=false→(l.filter p).length<(l.filter q).length
 | [],_,hx,_,_=>by cases hx
 | a :: l,x,hx,h1,h2=>by
  have le:=filt_le h l;rcases List.mem_cons.1 hx with rfl | hx
  ·simp only [List.filter_cons,h1,h2,if_true,List.length_cons];simp;omega
  ·have ih:=filt_lt h l x hx h1 h2;cases hp:p a
   ·cases hq:q a
    ·simpa [hp,hq] using ih
    ·simp only [List.filter_cons,hp,hq,if_true,List.length_cons];simp;omega
   ·have hq:=h a hp;simp only [List.filter_cons,hp,hq,if_true,List.length_cons];omega
theorem missFrom_le {rks rks':Nat→List Nat→Option Nat} (h:∀ i l,(rks' i l).isNone=true→(rks i l).isNone=true):∀ (ns:List Nat) (i:Nat),aQE rks' ns i≤aQE rks ns i
 | [],_=>Nat.le_refl _
 | _ :: ns,i=>Nat.add_le_add (filt_le (h i) _) (missFrom_le h ns (i+1))
theorem missFrom_lt {rks rks':Nat→List Nat→Option Nat} (h:∀ i l,(rks' i l).isNone=true→(rks i l).isNone=true) {l:List Nat}:∀ (ns:List Nat) (i j n:Nat),ns[j]?=some n→l∈alls n→rks (i+j) l=none→(rks' (i+j) l).isNone=false→aQE rks' ns i<aQE rks ns i
 | [],_,_,_,hj,_,_,_=>by simp at hj
 | m :: ns,i,0,n,hj,hl,h1,h2=>by
  have e:m=n:=by simpa using hj
  subst e;exact Nat.add_lt_add_of_lt_of_le (filt_lt (h i) _ l hl (by show ((rks i l).isNone)=true;rw [show i=i+0 by omega,h1];rfl) h2) (missFrom_le h ns (i+1))
 | m :: ns,i,j+1,n,hj,hl,h1,h2=>by
  have e:i+(j+1)=i+1+j:=by omega
  rw [e] at h1 h2;exact Nat.add_lt_add_of_le_of_lt (filt_le (h i) _) (missFrom_lt h ns (i+1) j n (by simpa using hj) hl h1 h2)
theorem fresh_less {rks:Nat→List Nat→Option Nat} {X:Nat→List Nat→Prop} {k n:Nat} (i:Nat) (l:List Nat) (h:(uQD rks X k n i l).isNone=true):(rks i l).isNone=true:=by
 unfold uQD at h;split at h
 ·unfold fQJ at h;split at h
  ·simp at h
  ·exact h
 ·exact h
theorem miss_step {rks:Nat→List Nat→Option Nat} {X:Nat→List Nat→Prop} {k:Nat} {ns:List Nat} {j n:Nat} {l:List Nat} (hj:ns[j]?=some n) (hl:l∈alls n) (hX:X j l) (h0:rks j l=none):aQE (uQD rks X k ns.length) ns 0<aQE rks ns 0:=by
 refine missFrom_lt fresh_less ns 0 j n hj hl (by rw [Nat.zero_add];exact h0) ?_;rw [Nat.zero_add];have hjl:=(List.getElem?_eq_some_iff.1 hj).1;unfold uQD fQJ;rw [if_pos hjl,if_pos hX];rfl
theorem Rep.some {S:ST} (hw:WF S) {f:Int} {c:Nat} {R:List Nat→Prop} (h:Rep S f c R) (hf:f≠0):∃ l,l∈alls c∧R l:=by
 refine Classical.byContradiction fun hn=>hf ?_;refine den_inj hw h.1 (yQE S) fun σ=>?_;rw [eQB];cases hd:S.den f σ with
 | false=>rfl
 | true=>exact absurd ⟨_,tupF_mem σ c 0,(h.2 σ).1 hd⟩ hn
theorem gB_some {fs:List Int} (h:gB fs fs.length=true):∃ (j:Nat) (f:Int),fs[j]?=some f∧f≠0:=by
 unfold gB at h;rw [List.take_length,List.any_eq_true] at h;obtain ⟨f,hf,h1⟩:=h;obtain ⟨j,hj,rfl⟩:=List.getElem_of_mem hf;exact ⟨j,_,List.getElem?_eq_getElem hj,by simpa using h1⟩
theorem gB_none {fs:List Int} (h:gB fs fs.length=false):∀ (j:Nat) (f:Int),fs[j]?=some f→f=0:=fun j f hf=>by
 unfold gB at h;rw [List.take_length,List.any_eq_false] at h;have:=h f (List.mem_of_getElem? hf);simpa using this
theorem AllS.swept {S S':ST} {rs:List RelX} {Fs:Nat→List Nat→Prop} {rks:Nat→List Nat→Option Nat} (h:AllS S rs Fs rks) (hr:∀ (f:Int) (c:Nat) (R:List Nat→Prop),f∈lQH rs→Rep S f c R→Rep S' f c R):AllS S' rs Fs rks:=fun i r hi=>
 have hm:r∈rs:=List.mem_of_getElem? hi
 ⟨hr _ _ _ (List.mem_flatMap.2 ⟨r,hm,by simp⟩) (h i r hi).fa,hr _ _ _ (List.mem_flatMap.2 ⟨r,hm,by simp⟩) (h i r hi).tu,(h i r hi).ranks⟩
theorem FndS.swept {S S':ST} {rs:List RelX} {fs:List Int} {Xs:Nat→List Nat→Prop} (h:FndS S rs fs Xs) (hr:∀ (f:Int) (c:Nat) (R:List Nat→Prop),f∈fs→Rep S f c R→Rep S' f c R):FndS S' rs fs Xs:=⟨h.1,fun i r f h1 h2=>hr _ _ _ (List.mem_of_getElem? h2) (h.2 i r f h1 h2)⟩
theorem HolS.swept {S S':ST} {us:List RuX} {HS:Nat→List (List Nat→Prop)} (h:HolS S us HS) (hr:∀ (f:Int) (c:Nat) (R:List Nat→Prop),f∈xQG us→Rep S f c R→Rep S' f c R):HolS S' us HS:=fun i u hi=>⟨(h i u hi).1,fun k y H h1 h2=>hr _ _ _ (List.mem_flatMap.2 ⟨u,List.mem_of_getElem? hi,List.mem_of_getElem? h1⟩) ((h i u hi).2 k y H h1 h2)⟩
end
section
open Go.RowKit
theorem Bse.ftp_lt {w:World} {bb gr cr:Nat} {B:SB} {S:ST} {rs:List RelX} {x0 x1 x3:Value} (h:Bse w bb B S gr cr rs x0 x1 x3):∀ j∈ftp B gr rs,j<w.heap.size:=fun j hj=>by
 simp only [ftp,List.mem_cons,List.mem_append,List.mem_map] at hj;rcases hj with rfl | ⟨r,hr,rfl⟩ | hj
 ·obtain ⟨cs,hc,_⟩:=h.rel;exact hc.lt
 ·exact (h.maps r hr).lt
 ·exact h.eng.sat.lt j hj
theorem Begun.rus {w w':World} {S:ST} {rks:Nat→List Nat→Option Nat} {v:Value} {us:List RuX} {X T:List Nat} (h:Begun w' w.heap.size S rks v us) (hX:∀ j∈X,j<w.heap.size) (hclu:∀ u∈us,CluAt w X u.toCluX) (k:aQA T w w') (hT:∀ j∈T,j∈X):∃ ua gu uc,v=.slice ua us.length uc∧(0<us.length→ua=some ⟨gu,0,none⟩)∧vQH w' X gu us:=by
 have hclu':∀ u∈us,CluAt w' (us.map (·.gh)++X) u.toCluX:=fun u hu=>((hclu u hu).apart (Y:=us.map (·.gh)++X) (fun j hj=>by
  rcases List.mem_append.1 hj with q | q
  ·obtain ⟨x,hx,rfl⟩:=List.mem_map.1 q;exact .inr (h.hld x hx).2.1
  ·exact .inl q)).keeps k (fun j hj=>.inl (List.mem_append.2 (.inr (hT j hj))))
 have hhld:∀ u∈us,lQB w' u.gh u.hs∧u.gh∉X∧u.hs.length=u.c.lits.length:=fun u hu=>by
  obtain ⟨h1,h2,h3,_,_⟩:=h.hld u hu;exact ⟨h1,fun q=>by have:=hX _ q;omega,h3⟩
 obtain ⟨e0,⟨rfl,e2⟩ | ⟨g,cap,cur,rfl,e2,e3,e4,e5,e6,e7⟩⟩:=id h.row
 ·exact ⟨none,0,0,by rw [e2],fun q=>by omega,⟨fun q=>by omega,fun q=>by omega,hclu',hhld,h.nodup⟩⟩
 ·refine ⟨some ⟨g,0,none⟩,g,cap,rfl,fun _=>rfl,⟨fun _=>⟨cur,⟨_,e3⟩,fun i u hi=>?_⟩,fun _=>⟨fun q=>by have:=hX _ q;omega,fun u hu=>(h.hld u hu).2.2.2.2 g rfl⟩,hclu',hhld,h.nodup⟩⟩;have hil:=(List.getElem?_eq_some_iff.1 hi).1;have hget:∀ q,q<4→cur[i * 4+q]?=(ruC u)[q]?:=fun q hq=>by
   rw [←ruCs_at hi hq,←e7,List.getElem?_take,if_pos (by omega),Array.getElem?_toList]
  exact ⟨hget 0 (by omega),hget 1 (by omega),hget 2 (by omega),hget 3 (by omega)⟩
theorem layOf_like {rs rs':List RelX} (h:nQC rs rs') (i:Nat):rQI rs' i=rQI rs i:=by
 unfold rQI;cases e:rs[i]? with
 | none=>
  have:rs'[i]?=none:=List.getElem?_eq_none (by rw [h.1];exact List.getElem?_eq_none_iff.1 e);rw [this]
 | some r=>
  obtain ⟨r',h1,h2⟩:=h.2 i r e;rw [h1];simp [h2.layer]
theorem ofLay_like {rs rs':List RelX} (h:nQC rs rs') (lay:Nat):iQH rs' lay=iQH rs lay:=by
 funext k
 unfold iQH;rw [layOf_like h]
theorem LikeUs.cs {us us':List RuX} {j:Nat} (h:LikeUs us us' j):us'.map (·.c)=us.map (·.c)∧us'.map (·.gh)=us.map (·.gh):=by
 constructor
 all_goals
  apply List.ext_getElem?;intro p;rw [List.getElem?_map,List.getElem?_map];cases e:us[p]? with
  | none=>
   have:us'[p]?=none:=List.getElem?_eq_none (by rw [h.1];exact List.getElem?_eq_none_iff.1 e);rw [this]
  | some u=>
   obtain ⟨u',h1,h2,h3,_⟩:=h.2 p u e;rw [h1];first | simp [h3];done | simp [show u'.c=u.c from by rw [h2]]
theorem roots_ok {S:ST} {rs:List RelX} {Fs:Nat→List Nat→Prop} {rks:Nat→List Nat→Option Nat} (ha:AllS S rs Fs rks) {fs:List Int} {Xs:Nat→List Nat→Prop} (hf:FndS S rs fs Xs) {us:List RuX} {HS:Nat→List (List Nat→Prop)} (hH:HolS S us HS):gQH S (fs++lQH rs++xQG us):=fun f hm=>by
 rcases List.mem_append.1 hm with hm | hm
 ·rcases List.mem_append.1 hm with hm | hm
  ·obtain ⟨i,hi,rfl⟩:=List.getElem_of_mem hm;exact (hf.2 i _ _ (List.getElem?_eq_getElem (by rw [←hf.1];exact hi)) (List.getElem?_eq_getElem hi)).1
  ·obtain ⟨r,hr,hm⟩:=List.mem_flatMap.1 hm;obtain ⟨i,hi,rfl⟩:=List.getElem_of_mem hr;have hR:=ha i _ (List.getElem?_eq_getElem hi);simp only [List.mem_cons,List.not_mem_nil,or_false] at hm;rcases hm with rfl | rfl
   ·exact hR.fa.1
   ·exact hR.tu.1
 ·obtain ⟨u,hu,hm⟩:=List.mem_flatMap.1 hm;obtain ⟨i,hi,rfl⟩:=List.getElem_of_mem hu;obtain ⟨k,hk,rfl⟩:=List.getElem_of_mem hm;have h1:=hH i _ (List.getElem?_eq_getElem hi);exact (h1.2 k _ _ (List.getElem?_eq_getElem hk) (List.getElem?_eq_getElem (by rw [←h1.1];exact hk))).1
theorem alls_len:∀ n,n≤3→(alls n).length≤512
 | 0,_=>by decide
 | 1,_=>by decide
 | 2,_=>by decide
 | 3,_=>by
  have h:(alls 2).length=64:=by decide
  show ((List.range 8).flatMap fun d=>(alls 2).map (d :: ·)).length≤512;simp only [List.length_flatMap,List.length_map,h];decide
 | n+4,h=>by omega
theorem miss_few (rks:Nat→List Nat→Option Nat):∀ (ns:List Nat) (i:Nat),(∀ n∈ns,n≤3)→aQE rks ns i≤512 * ns.length
 | [],_,_=>by simp [aQE]
 | n :: ns,i,h=>by
  have h1:=miss_few rks ns (i+1) (fun m hm=>h m (List.mem_cons_of_mem _ hm));have h2:=alls_len n (h n (List.mem_cons_self ..));have h3:missOf n (rks i)≤(alls n).length:=List.length_filter_le _ _;simp only [aQE,List.length_cons];omega
def uQC (cs:List iQA) (rk:Nat→List Nat→Option Nat) (p:Nat):List (List Nat→Prop):=match cs[p]? with | some c=>c.lits.map (litH rk) | none=>[]
theorem Begun.hol {w:World} {z:Nat} {S:ST} {rks:Nat→List Nat→Option Nat} {v:Value} {us:List RuX} {cs:List iQA} (h:Begun w z S rks v us) (hc:us.map (·.c)=cs):HolS S us (uQC cs rks):=fun i u hi=>by
 subst hc;have e:uQC (us.map (·.c)) rks i=u.c.lits.map (litH rks):=by unfold uQC;rw [List.getElem?_map,hi];rfl
 rw [e];exact (h.hld u (List.mem_of_getElem? hi)).2.2.2.1
end
section
open Go.RowKit
def LayTo (bb gr cr:Nat) (B:SB) (rs:List RelX) (x0 x1 x3:Value) (Fs:Nat→List Nat→Prop) (rk0:Nat→List Nat→Option Nat) (cs:List iQA) (w:World) (S:ST) (e:Ending) (w':World):Prop:=
 e=.returned (.tuple #[])∧∃ rs' S' T,Bse w' bb B S' gr cr rs' x0 x1 x3∧nQC rs rs'∧aQA (ftp B gr rs) w w'∧S'.next≤S.next+33000000000000∧AllS S' rs' Fs (rnd cs rs.length rk0 (uQC cs rk0) (T+1)).rk∧∀ (i:Nat) (r:RelX),rs'[i]?=some r→Rep S' 0 r.n ((rnd cs rs.length rk0 (uQC cs rk0) T).x i)
def LayIn (bb gr cr:Nat) (B:SB) (rs:List RelX) (x0 x1 x3:Value) (Fs:Nat→List Nat→Prop) (rk0:Nat→List Nat→Option Nat) (cs:List iQA) (gu:Nat) (ghs:List Nat) (w:World) (S:ST) (x y:Value) (wr:World):Prop:=
 ∃ (t g cf:Nat) (fs:List Int) (S1:ST) (rs1:List RelX) (us:List RuX),x=.slice (some ⟨g,0,none⟩) rs.length cf∧y=.int .i64 ((t:Int)+1)∧Bse wr bb B S1 gr cr rs1 x0 x1 x3∧nQC rs rs1∧aQA (ftp B gr rs) w wr∧w.heap.size≤g∧g∉ghs∧lQB wr g fs∧vQH wr (ftp B gr rs) gu us∧Hid (us.map (·.c)=cs)∧Hid (us.map (·.gh)=ghs)∧FndS S1 rs1 fs (rnd cs rs.length rk0 (uQC cs rk0) t).x∧HolS S1 us (rnd cs rs.length rk0 (uQC cs rk0) t).hs∧AllS S1 rs1 Fs (rnd cs rs.length rk0 (uQC cs rk0) t).rk∧Hid (S1.next≤S.next+5300000000+10520024570 * t)∧Hid (aQE (rnd cs rs.length rk0 (uQC cs rk0) t).rk (rs.map (·.n)) 0+t≤3072)
theorem layer_calls {w:World} {bb gr cr:Nat} {B:SB} {S:ST} {rs:List RelX} {x0 x1:Value} {ka:Option Addr} {ks:List CluX} {kc:Nat} (h:Bse w bb B S gr cr rs x0 x1 (.slice ka ks.length kc)) {Fs:Nat→List Nat→Prop} {rks:Nat→List Nat→Option Nat} (ha:AllS S rs Fs rks) (hks:KlsAt w (ftp B gr rs) ka ks) (hok:∀ k∈ks,ClOk rs k.c∧0<k.c.lits.length) (h52:ks.length≤52) (h0:0<rs.length) (lay:Nat) (hl:S.next+34000000000000<lim) :
  Calls prog 150 #[.pointer (some ⟨bb,0,none⟩),.int .i64 (lay:Int)] w (LayTo bb gr cr B rs x0 x1 (.slice ka ks.length kc) Fs (dQD rs Fs rks lay rs.length) ((ks.filter (iQH rs lay)).map (·.c)) w S):=by
 have h6:=h.few;have hlv:=hide (leave_calls h ha lay (by omega));have Hl:=hide hl;clear hl;go_enter func150,ntmps150
 go_wp2_with fail
 refine hlv.out.mono ?_;rintro e W1 ⟨rfl,rs1,S1,hb1,lk1,k1,x1',n1,ha1⟩;have hft:=lk1.ftp (B:=B) (gr:=gr);have hks1:=hks.keeps k1 (fun j hj=>.inl hj);have hbg:=hide (begin_calls hb1 ha1 (by rw [hft];exact hks1) (fun k hk=>⟨(hok k hk).1.like lk1,(hok k hk).2⟩) h52 lay (by have:=Hl.out;omega));have Hn1:=hide n1;clear n1 hlv;go_wp2_with fail
 refine hbg.out.mono ?_;rintro e W2 ⟨v,us,S2,rfl,hB2,hus,hE2,k2,x2,n2⟩;rw [ofLay_like lk1] at hus;have hcs:us.map (·.c)=(ks.filter (iQH rs lay)).map (·.c):=by rw [←hus,List.map_map];rfl
 have hb2:=hb1.store k2 hE2;have huk:∀ u∈us,u.toCluX∈ks:=fun u hu=>by
  have:u.toCluX∈us.map (·.toCluX):=List.mem_map.2 ⟨u,hu,rfl⟩;rw [hus] at this;exact (List.mem_filter.1 this).1
 have hul:us.length≤52:=by
  have e1:=congrArg List.length hus;rw [List.length_map] at e1;have:=List.length_filter_le (iQH rs lay) ks;omega
 have hX:=h.ftp_lt;have hX1:∀ j∈ftp B gr rs,j<W1.heap.size:=fun j hj=>Nat.lt_of_lt_of_le (hX j hj) k1.size;obtain ⟨ua,gu,uc,hv,hua,hru⟩:=hB2.rus (X:=ftp B gr rs) hX1 (fun u hu=>hks1.clu _ (huk u hu)) k2 (fun j hj=>eQC hj);subst hv;have hH2:=hB2.hol hcs;have hgh2:∀ u∈us,w.heap.size≤u.gh:=fun u hu=>Nat.le_trans k1.size (hB2.hld u hu).2.1;have hok2:∀ u∈us,ClOk rs u.c∧0<u.c.lits.length:=fun u hu=>hok _ (huk u hu);have ha2:=ha1.ext x2 hb1.eng.wf hE2.wf;have hfr:=hide (firstR_calls (uc:=uc) hb2 ha2 hua (by rw [hft];exact hru) (fun u hu=>(hok2 u hu).1.like lk1) hH2 hul (by have:=Hl.out;have:=Hn1.out;omega));have Hn2:=hide n2;have Hus:=hide hus;clear n2 hbg hus;go_wp2_with fail
 refine hfr.out.mono ?_;rintro e W3 ⟨g,cf,fs,S3,rfl,hg,hrow,hE3,k3,x3',n3,hf3⟩;generalize hCS:(ks.filter (iQH rs lay)).map (·.c)=cs at *;generalize hRK:dQD rs Fs rks lay rs.length=rk0 at *;have hb3:=hb2.store k3 hE3;have hru3:=hru.keeps k3 (fun j hj=>.inl (eQC hj));have kw3:aQA (ftp B gr rs) w W3:=(k1.trans (k2.mono (fun j hj=>eQC hj))).trans (k3.mono (fun j hj=>eQC hj));have hgh:∀ q∈us.map (·.gh),w.heap.size≤q:=fun q hq=>by obtain ⟨u,hu,rfl⟩:=List.mem_map.1 hq;exact hgh2 u hu
 have hgn:g∉us.map (·.gh):=fun q=>by
  obtain ⟨u,hu,e⟩:=List.mem_map.1 q;have:=(hB2.hld u hu).1.lt;omega
 have hgw:w.heap.size≤g:=by have:=k1.size;have:=k2.size;omega
 have hf0:FndS S3 rs1 fs (rnd cs rs.length rk0 (uQC cs rk0) 0).x:=hf3.iff (fun i l=>by
  show outX _ _ _ i l↔outX _ _ _ i l;unfold outX
  rw [first_same hcs (fun u hu=>(hB2.hld u hu).2.2.1),lk1.1])
 have hH0:HolS S3 us (rnd cs rs.length rk0 (uQC cs rk0) 0).hs:=hH2.ext x3' hE2.wf hE3.wf;have ha0:AllS S3 rs1 Fs (rnd cs rs.length rk0 (uQC cs rk0) 0).rk:=ha2.ext x3' hE2.wf hE3.wf;have hns:∀ n∈rs.map (·.n),n≤3:=fun n hn=>by obtain ⟨r,hr,rfl⟩:=List.mem_map.1 hn;exact h.cols r hr
 have hm0:=miss_few rk0 (rs.map (·.n)) 0 hns;rw [List.length_map] at hm0;have Hn3:=hide (show S3.next≤S.next+5300000000 by have:=Hn1.out;have:=Hn2.out;omega);have Hcs:=hide hcs;have e0:rs1.length=rs.length:=lk1.1;rw [e0];generalize hGH:us.map (·.gh)=ghs at *;have Hst:LayIn bb gr cr B rs x0 x1 (.slice ka ks.length kc) Fs rk0 cs gu ghs w S (.slice (some ⟨g,0,none⟩) rs.length cf) (.int .i64 1) W3:=⟨0,g,cf,fs,S3,rs1,us,rfl,rfl,hb3,lk1,kw3,hgw,hgn,hrow,hru3,Hcs,hide hGH,hf0,hH0,ha0,hide (by have:=Hn3.out;omega),hide (by show aQE rk0 _ 0+0≤3072;omega)⟩;have hghs:∀ q∈ghs,w.heap.size≤q:=hgh;have hu0:us.length=cs.length:=by rw [←Hcs.out,List.length_map]
 have hokc:∀ c∈cs,ClOk rs c∧0<c.lits.length:=fun c hc=>by
  rw [←Hcs.out] at hc;obtain ⟨u,hu,rfl⟩:=List.mem_map.1 hc;exact hok2 u hu
 have Hu0:=hide hu0;have HCS:=hide hCS;have HRK:=hide hRK;have hbbw:=h.cells.lt;have HX:=hide hX;clear hu0 hok2 hm0 hns ha0 hH0 hf0 hgw hgn hgh hru3 hb3 hRK hCS hGH hf3 n3 x3' k3 hE3 hrow hg hfr ha2 hgh2 hH2 hru hX1 huk hb2 hcs k2 x2 hE2 hB2 hks1 hX Hn3 Hn2 Hn1 Hus kw3 hks hok h52 ha ha1 x1' k1 hb1 hft lk1 e0 Hcs;go_wp2_with fail
 go_loopw [5,6] (fun x y wr=>LayIn bb gr cr B rs x0 x1 (.slice ka ks.length kc) Fs rk0 cs gu ghs w S x y wr) (fun _ y _=>((4000:Int) - intOf y).toNat)
 case atStart=>exact Hst
 case round=>
  obtain ⟨t,g4,cf4,fs4,S4,rs4,us4,rfl,rfl,hb4,lk4,k4,hg4,hgn4,hrow4,hru4,hc4,hgh4,hf4,hH4,ha4,hn4,hm4⟩:=hrel;have hft4:=lk4.ftp (B:=B) (gr:=gr);have hfl:fs4.length=rs.length:=by rw [hf4.1,lk4.1]
  have er:((t+1:Nat):Int)=(t:Int)+1:=by omega
  have ht:t≤3072:=by have:=hm4.out;omega
  have hgX:g4∉ftp B gr rs:=fun q=>by have:=HX.out _ q;omega
  have hfc:=fresh_calls (cf:=cf4) hb4 ha4 hrow4 (by rw [hft4];exact hgX) hf4 (t+1) (by have:=Hl.out;have:=hn4.out;omega);have Hgn:=hide (fun (q:gB fs4 fs4.length=false)=>gB_none q);have Hgs:=hide (fun (q:gB fs4 fs4.length=true)=>gB_some q);rw [hfl,er] at hfc;rw [hfl] at Hgn Hgs;have Hfc:=hide hfc;have Hfl:=hide hfl;have Hst4:=hide Hst;clear hfc hfl er Hst;go_wp2_with fail
  refine Hfc.out.mono ?_;rintro e W5 ⟨rfl,rs5,S5,hb5,lk5,k5,x5,n5,ha5⟩;rw [hft4] at k5;rw [lk4.1] at ha5;have lk45:=lk4.trans lk5;have Hn5:=hide n5;clear n5 Hfc;cases hgb:gB fs4 rs.length with
  | false=>
   have hz:=hide (Hgn.out hgb);go_wp2_with fail
   go_end0
   rw [HCS.out,HRK.out];refine ⟨rfl,rs5,S5,t,hb5,lk45,k4.trans k5,by have:=hn4.out;have:=Hn5.out;omega,ha5,fun i r hr=>?_⟩;have hif:i<fs4.length:=by rw [Hfl.out,←lk45.1];exact (List.getElem?_eq_some_iff.1 hr).1
   have hff:=List.getElem?_eq_getElem hif;have e:=hz.out i _ hff;rw [e] at hff;exact ((hf4.like lk5).2 i r 0 hr hff).ext x5 hb4.eng.wf hb5.eng.wf
  | true=>
   obtain ⟨j0,f0,hf0,hne⟩:=Hgs.out hgb;have hj0:j0<rs.length:=by rw [←Hfl.out];exact (List.getElem?_eq_some_iff.1 hf0).1
   have hmiss:aQE (rnd cs rs.length rk0 (uQC cs rk0) (t+1)).rk (rs.map (·.n)) 0<aQE (rnd cs rs.length rk0 (uQC cs rk0) t).rk (rs.map (·.n)) 0:=by
    obtain ⟨r4,hr4,hlr⟩:=lk4.2 j0 _ (List.getElem?_eq_getElem hj0);obtain ⟨l,hl1,hl2⟩:=(hf4.2 j0 r4 f0 hr4 hf0).some hb4.eng.wf hne;have hms:=miss_step (ns:=rs.map (·.n)) (k:=t+1) (j:=j0) (n:=r4.n) (by rw [List.getElem?_map,List.getElem?_eq_getElem hj0,hlr.n];rfl) hl1 hl2 (rnd_out cs rs.length rk0 (uQC cs rk0) t hj0 hl2);rw [List.length_map] at hms;exact hms
   have hul4:us4.length=us.length:=(by rw [Hu0.out,←hc4.out,List.length_map]);have hru5:=hru4.keeps k5 (fun j hj=>.inl hj);have hft5:=lk45.ftp (B:=B) (gr:=gr);have hok5:∀ u∈us4,ClOk rs5 u.c∧0<u.c.lits.length:=fun u hu=>by
    have hm:u.c∈cs:=by rw [←hc4.out];exact List.mem_map.2 ⟨u,hu,rfl⟩
    exact ⟨(hokc _ hm).1.like lk45,(hokc _ hm).2⟩
   have hgw4:∀ u∈us4,w.heap.size≤u.gh:=fun u hu=>hghs _ (by rw [←hgh4.out];exact List.mem_map.2 ⟨u,hu,rfl⟩);have hown:∀ j∈B.own,j<w.heap.size:=h.eng.sat.lt;have hH5:=hH4.ext x5 hb4.eng.wf hb5.eng.wf;have hf5:=(hf4.like lk5).ext x5 hb4.eng.wf hb5.eng.wf
   have hnx:=nextR_calls (uc:=uc) (cF:=cf4) hb5 ha5 (fun q=>hua (by omega)) (by rw [hft5];exact hru5) (fun u hu e=>by have:=hgw4 u hu;omega) hok5 hH5 (hrow4.keepsE k5 hgX) (fun q=>by
    rcases List.mem_append.1 q with q | q
    ·rw [hgh4.out] at q;exact hgn4 q
    ·have:=hown _ q;omega) hf5 (by omega) (by have:=Hl.out;have:=hn4.out;have:=Hn5.out;omega)
   rw [hul4,lk45.1] at hnx;have Hnx:=hide hnx;have Hul4:=hide hul4;clear hnx hul4 hf0 hne hj0;go_wp2_with fail
   refine Hnx.out.mono ?_;rintro e W6 ⟨g6,cf6,fs6,S6,us6,rfl,hg6,hrow6,hE6,k6,x6,n6,hf6,hru6,hlk6,hH6⟩;have Hn6:=hide n6;rw [lk45.1];rw [hft5] at hru6;have hul6:us6.length=us.length:=(by rw [hlk6.1,Hul4.out]);obtain ⟨hcs6,hghs6⟩:=hlk6.cs;rw [hc4.out] at hcs6;rw [hgh4.out] at hghs6
   have kw6:aQA (ftp B gr rs) w W6:=(k4.trans k5).trans_new k6 (fun j hj=>by
    rcases List.mem_append.1 hj with q | q
    ·exact .inr (hghs j (by rw [←hgh4.out];exact q))
    ·exact .inl (eQC q))
   have hgne:∀ q,q<w.heap.size→q∉B.own→q∉us4.map (·.gh)++B.own:=fun q h1 h2 hm=>by
    rcases List.mem_append.1 hm with hm | hm
    ·have:=hghs q (by rw [←hgh4.out];exact hm);omega
    ·exact h2 hm
   have hb6:=hb5.other k6 (hgne bb hbbw h.bbB) (hgne gr (HX.out gr (by simp [ftp])) h.grB) (fun r hr=>hgne r.rm (HX.out r.rm (by rw [←hft5];simp only [ftp,List.mem_cons,List.mem_append,List.mem_map];exact .inr (.inl ⟨r,hr,rfl⟩))) (hb5.rmB r hr)) hE6;have hal6:AllS S6 rs5 Fs (rnd cs rs.length rk0 (uQC cs rk0) (t+1)).rk:=ha5.ext x6 hb5.eng.wf hE6.wf
   have hfo6:FndS S6 rs5 fs6 (rnd cs rs.length rk0 (uQC cs rk0) (t+1)).x:=hf6.iff (fun i l=>by
    show outX _ _ _ i l↔outX _ _ _ i l;unfold outX
    rw [next_same hc4.out,lk45.1])
   have hho6:HolS S6 us6 (rnd cs rs.length rk0 (uQC cs rk0) (t+1)).hs:=fun i u hi=>by
    have:=hH6 i u hi;rw [hs_same hc4.out] at this;exact this
   have h46:∀ u∈us6,u.hs.length≤4:=fun u hu=>by
    rw [(hru6.hld u hu).2.2];exact (hokc u.c (by rw [←hcs6];exact List.mem_map.2 ⟨u,hu,rfl⟩)).1.few
   have hfl6:fs6.length=rs.length:=(by rw [hfo6.1,lk45.1]);have hsw:=sweepB_calls (uc:=uc) hb6 (fun q=>hua (by omega)) hru6 h46 (by omega) (by omega) (cloneE_calls (cap:=cf6) hrow6 (by omega)) (by rw [lk45.1];exact h0) (roots_ok hal6 hfo6 hho6);rw [hul6,hfl6] at hsw;have Hsw:=hide hsw;have hg6w:w.heap.size≤g6:=by have:=k4.size;have:=k5.size;omega
   have hg6n:g6∉ghs:=fun q=>by
    rw [←hgh4.out] at q;obtain ⟨u,hu,e⟩:=List.mem_map.1 q;have:=(hru5.hld u hu).1.lt;omega
   have hEnd:=hide (fun (W7:World) (S7:ST) (hE7:EngS W7 B S7) (k7:aQA B.own W6 W7) (n7:S7.next=S6.next) (hrep:∀ (f:Int) (c:Nat) (R:List Nat→Prop),f∈fs6++lQH rs5++xQG us6→Rep S6 f c R→Rep S7 f c R)=>
    show LayIn bb gr cr B rs x0 x1 (.slice ka ks.length kc) Fs rk0 cs gu ghs w S (.slice (some ⟨g6,0,none⟩) rs.length cf6) (.int .i64 ((t:Int)+1+1)) W7 from
     ⟨t+1,g6,cf6,fs6,S7,rs5,us6,rfl,by simp,hb6.store k7 hE7,lk45,kw6.trans (k7.mono (fun j hj=>eQC hj)),hg6w,hg6n,hrow6.keepsE k7 (fun q=>by have:=hown _ q;omega),hru6.keeps k7 (fun j hj=>.inl (eQC hj)),hide hcs6,hide hghs6,hfo6.swept (fun f c R hf hR=>hrep f c R (by simp [hf]) hR),hho6.swept (fun f c R hf hR=>hrep f c R (by simp [hf]) hR),hal6.swept (fun f c R hf hR=>hrep f c R (by simp [hf]) hR),hide (by have:=hn4.out;have:=Hn5.out;have:=Hn6.out;push_cast;omega),hide (by have:=hm4.out;omega)⟩)
   clear hsw hfl6 hul6 h46 hho6 hfo6 hal6 hgne hcs6 hghs6 hrow6 hf6 hru6 hlk6 hH6 n6 Hnx;go_wp2_with fail
   refine Hsw.out.mono ?_;rintro e W7 ⟨rfl,S7,hE7,k7,n7,hrep⟩;have hI:=hide (hEnd.out W7 S7 hE7 k7 n7 hrep);clear hEnd Hsw hrep n7;go_wp2_with fail
   go_roundw
   ·exact hI.out
   ·simp only [intOf];omega
end
section
open Go.RowKit
def LayStep (rs:List RelX) (Fs:Nat→List Nat→Prop) (ks:List CluX) (lay:Nat) (rk rk':Nat→List Nat→Option Nat):Prop:=
 ∃ T,rk' = (rnd ((ks.filter (iQH rs lay)).map (·.c)) rs.length (dQD rs Fs rk lay rs.length) (uQC ((ks.filter (iQH rs lay)).map (·.c)) (dQD rs Fs rk lay rs.length)) (T+1)).rk ∧
  ∀ (i:Nat) (r:RelX) (l:List Nat),rs[i]?=some r→l∈alls r.n→¬ (rnd ((ks.filter (iQH rs lay)).map (·.c)) rs.length (dQD rs Fs rk lay rs.length) (uQC ((ks.filter (iQH rs lay)).map (·.c)) (dQD rs Fs rk lay rs.length)) T).x i l
inductive cQE (rs:List RelX) (Fs:Nat→List Nat→Prop) (ks:List CluX) (a:Nat) (rk:Nat→List Nat→Option Nat):Nat→(Nat→List Nat→Option Nat)→Prop
 | refl:cQE rs Fs ks a rk a rk
 | step {b:Nat} {rk1 rk2:Nat→List Nat→Option Nat}:cQE rs Fs ks a rk b rk1→LayStep rs Fs ks b rk1 rk2→cQE rs Fs ks a rk (b+1) rk2
theorem leaveRk_like {rs rs':List RelX} (h:nQC rs rs') (Fs:Nat→List Nat→Prop) (rks:Nat→List Nat→Option Nat) (lay j:Nat):dQD rs' Fs rks lay j=dQD rs Fs rks lay j:=by
 funext i
 unfold dQD;rw [layOf_like h]
theorem rep_zero {S:ST} {c:Nat} {R:List Nat→Prop} (h:Rep S 0 c R) {l:List Nat} (hl:l∈alls c):¬ R l:=fun hR=>by
 obtain ⟨σ,rfl⟩:=alls_tup hl;have:=(h.2 σ).2 hR;rw [eQB] at this;cases this
theorem rootsR_ok {S:ST} {rs:List RelX} {Fs:Nat→List Nat→Prop} {rks:Nat→List Nat→Option Nat} (ha:AllS S rs Fs rks):gQH S ([]++lQH rs++xQG []):=fun f hm=>by
 simp only [xQG,List.nil_append,List.flatMap_nil,List.append_nil] at hm;obtain ⟨r,hr,hm⟩:=List.mem_flatMap.1 hm;obtain ⟨i,hi,rfl⟩:=List.getElem_of_mem hr;have hR:=ha i _ (List.getElem?_eq_getElem hi);simp only [List.mem_cons,List.not_mem_nil,or_false] at hm;rcases hm with rfl | rfl
 ·exact hR.fa.1
 ·exact hR.tu.1
theorem vQH.none (w:World) (X:List Nat):vQH w X 0 []:=⟨fun q=>by simp at q,fun q=>by simp at q,fun u hu=>by simp at hu,fun u hu=>by simp at hu,by simp⟩
def WrkTo (bb gr cr:Nat) (B:SB) (rs:List RelX) (x0 x1 x3:Value) (Fs:Nat→List Nat→Prop) (ks:List CluX) (a:Nat) (rks:Nat→List Nat→Option Nat) (w:World) (S:ST) (e:Ending) (w':World):Prop:=
 e=.returned (.tuple #[])∧∃ rs' S' rk',Bse w' bb B S' gr cr rs' x0 x1 x3∧nQC rs rs'∧aQA (ftp B gr rs) w w'∧S'.next≤S.next+200000000000000∧AllS S' rs' Fs rk'∧cQE rs Fs ks a rks rs.length rk'
theorem work_calls {w:World} {bb gr cr:Nat} {B:SB} {S:ST} {rs:List RelX} {x0 x1:Value} {ka:Option Addr} {ks:List CluX} {kc:Nat} (h:Bse w bb B S gr cr rs x0 x1 (.slice ka ks.length kc)) {Fs:Nat→List Nat→Prop} {rks:Nat→List Nat→Option Nat} (ha:AllS S rs Fs rks) (hks:KlsAt w (ftp B gr rs) ka ks) (hok:∀ k∈ks,ClOk rs k.c∧0<k.c.lits.length) (h52:ks.length≤52) (h0:0<rs.length) (a:Nat) (han:a≤rs.length) (hl:S.next+250000000000000<lim) :
  Calls prog 75 #[.pointer (some ⟨bb,0,none⟩),.int .i64 (a:Int)] w (WrkTo bb gr cr B rs x0 x1 (.slice ka ks.length kc) Fs ks a rks w S):=by
 have h6:=h.few;have Hl:=hide hl;clear hl;go_enter func75,ntmps75
 go_wp2_with fail
 go_loopw [1] (fun y wr=>∃ (j:Nat) (rs1:List RelX) (S1:ST) (rk1:Nat→List Nat→Option Nat),y=.int .i64 j∧j≤rs.length∧Bse wr bb B S1 gr cr rs1 x0 x1 (.slice ka ks.length kc)∧nQC rs rs1∧aQA (ftp B gr rs) w wr∧Hid (S1.next≤S.next+33000000000000 * j)∧AllS S1 rs1 Fs rk1∧cQE rs Fs ks a rks j rk1) (fun y _=>((rs.length:Int) - intOf y).toNat)
 case atStart=>exact ⟨a,rs,S,rks,rfl,han,h,nQC.refl rs,aQA.refl _ _,hide (by omega),ha,.refl⟩
 case round=>
  obtain ⟨j,rs1,S1,rk1,rfl,hj,hb,lk,hk,hn,ha1,hst⟩:=hrel;have g2:=hb.cells.cell 2;simp at g2;rw [lk.1] at g2;by_cases hjl:j<rs.length
  ·have hjI:(j:Int)<rs.length:=(by omega);have hks1:=hks.keeps hk (fun j hj=>.inl hj);have hft:=lk.ftp (B:=B) (gr:=gr);have hly:=hide (layer_calls hb ha1 (by rw [hft];exact hks1) (fun k hk=>⟨(hok k hk).1.like lk,(hok k hk).2⟩) h52 (by rw [lk.1];exact h0) j (by have:=Hl.out;have:=hn.out;omega));go_wp2_with fail
   refine hly.out.mono ?_;rintro e W5 ⟨rfl,rs5,S5,T,hb5,lk5,k5,n5,ha5,hx5⟩;rw [hft] at k5;rw [ofLay_like lk,leaveRk_like lk,lk.1] at ha5 hx5
   have hstep:LayStep rs Fs ks j rk1 _:=⟨T,rfl,fun i r l hi hl=>by
    obtain ⟨r',h1,h2⟩:=(lk.trans lk5).2 i r hi
    exact rep_zero (hx5 i r' h1) (by rw [h2.n];exact hl)⟩
   have Hn5:=hide n5;clear n5 hly g2;go_wp2_with fail
   go_roundw
   ·exact ⟨j+1,rs5,S5,_,by simp,by omega,hb5,lk.trans lk5,hk.trans k5,hide (by have:=hn.out;have:=Hn5.out;push_cast;omega),ha5,hst.step hstep⟩
   ·simp only [intOf];omega
  ·have hjI:¬ (j:Int)<rs.length:=(by omega);have e:j=rs.length:=(by omega);subst e;have hsw:=sweepB_calls (uc:=0) (ua:=none) (us:=[]) (gu:=0) (X:=[]) hb (fun q=>by simp at q) (vQH.none _ _) (fun u hu=>by simp at hu) (by simp) (fs:=[]) (by simp) (cloneE_nil _) (by rw [lk.1];exact h0) (rootsR_ok ha1);have Hsw:=hide (show Calls prog 151 #[.pointer (some ⟨bb,0,none⟩),.slice none 0 0,.slice none 0 0] _ _ from hsw);clear hsw;go_wp2_with fail
   refine Hsw.out.mono ?_;rintro e W7 ⟨rfl,S7,hE7,k7,n7,hrep⟩;have Hrep:=hide hrep;clear hrep;go_wp2_with fail
   go_end0
   exact ⟨rfl,rs1,S7,rk1,hb.store k7 hE7,lk,hk.trans (k7.mono (fun q hq=>eQC hq)),by rw [n7];have:=hn.out;omega,ha1.swept (fun f c R hf hR=>Hrep.out f c R (by simp [hf]) hR),hst⟩
end
section
open Go.RowKit
def dgs (l:List Nat):List Int:=l.map fun d:Nat=>(d:Int)
theorem asnF_snoc:∀ (l:List Nat) (d p:Nat),asnF (l++[d]) p=asnF l p+r3 d * 2 ^ (3 * (p+l.length))
 | [],d,p=>by simp [asnF]
 | c :: l,d,p=>by
  have:=asnF_snoc l d (p+1);simp only [List.cons_append,asnF,this,List.length_cons];rw [show p+1+l.length=p+(l.length+1) by omega];omega
theorem asnF_few:∀ (l:List Nat) (p:Nat),asnF l p+2 ^ (3 * p)≤2 ^ (3 * (p+l.length))
 | [],p=>by simp [asnF]
 | d :: l,p=>by
  have ih:=asnF_few l (p+1);have h1:=r3_lt d;have e:2 ^ (3 * (p+1))=8 * 2 ^ (3 * p):=by rw [show 3 * (p+1)=3 * p+3 by omega,Nat.pow_add];omega
  have h2:r3 d * 2 ^ (3 * p)≤7 * 2 ^ (3 * p):=Nat.mul_le_mul_right _ (by omega);simp only [asnF,List.length_cons];rw [show p+(l.length+1)=p+1+l.length by omega];omega
theorem r3_step:∀ d,d<8→∀ i,i<3→r3 d % 2 ^ (i+1)=r3 d % 2 ^ i+d / 2 ^ (2 - i) % 2 * 2 ^ i:=by decide
theorem or_none {a:Nat} (h:a<4096):bits BinOp.or IntKind.i64 (a:Int) 0=(a:Int):=by
 have e2:=(bits_nat .i64 62 (by decide) (fun n a b=>by rw [IntKind.wrap_i64];omega) a 0 (by omega) (by omega)).2;have e3:(((0:Nat):Int))=0:=rfl;rw [e3] at e2;rw [e2,Nat.or_zero]
theorem asn_or {A d k i b:Nat} (hd:d<8) (hk:k<3) (hi:i<3) (hA:A<2 ^ (3 * k)) (hb:d / 2 ^ (2 - i) % 2=b):bits BinOp.or IntKind.i64 ((A+r3 d % 2 ^ i * 2 ^ (3 * k):Nat):Int) (IntKind.i64.wrap ((b:Int) * 2 ^ (3 * (k:Int)+(i:Int)).toNat))=((A+r3 d % 2 ^ (i+1) * 2 ^ (3 * k):Nat):Int):=by
 have hv:(3 * (k:Int)+(i:Int)).toNat=3 * k+i:=by omega
 have hb2:b<2:=by omega
 have hr:r3 d % 2 ^ i<2 ^ i:=Nat.mod_lt _ (Nat.two_pow_pos i);have hp:2 ^ (3 * k+i)=2 ^ i * 2 ^ (3 * k):=by rw [Nat.pow_add,Nat.mul_comm]
 have h1:(r3 d % 2 ^ i+1) * 2 ^ (3 * k)≤2 ^ i * 2 ^ (3 * k):=Nat.mul_le_mul_right _ hr;rw [Nat.add_mul,Nat.one_mul] at h1;have hC:A+r3 d % 2 ^ i * 2 ^ (3 * k)<2 ^ (3 * k+i):=by omega
 have hv9:3 * k+i<9:=by omega
 have h512:2 ^ (3 * k+i)≤2 ^ 9:=Nat.pow_le_pow_right (by decide) (by omega);rw [hv,r3_step d hd i hi,hb,Nat.add_mul,←Nat.add_assoc,Nat.mul_assoc b,←hp];generalize A+r3 d % 2 ^ i * 2 ^ (3 * k)=C at *;have hcase:b=0∨b=1:=by omega
 rcases hcase with rfl | rfl
 ·have:IntKind.i64.wrap (((0:Nat):Int) * 2 ^ (3 * k+i))=0:=by simp [IntKind.wrap_i64]
  rw [this,Nat.zero_mul,Nat.add_zero];exact or_none (by omega)
 ·have e:((1:Nat):Int) * 2 ^ (3 * k+i)=((2 ^ (3 * k+i):Nat):Int):=by push_cast;omega
  have:IntKind.i64.wrap (((1:Nat):Int) * 2 ^ (3 * k+i))=((2 ^ (3 * k+i):Nat):Int):=by rw [e,IntKind.wrap_i64];omega
  rw [this,Nat.one_mul];exact or_pow hC (by omega)
theorem and_bit {d m:Nat} (hd:d<8):bits BinOp.and IntKind.i64 ((d:Int) / 2 ^ m) 1=((d / 2 ^ m % 2:Nat):Int):=by
 have h0:(d:Int) / 2 ^ m=((d / 2 ^ m:Nat):Int):=by push_cast;rfl
 have h1:d / 2 ^ m≤d:=Nat.div_le_self _ _;rw [h0];generalize d / 2 ^ m=q at *;rw [and_one _ (by omega) (by omega)];omega
theorem assign_calls {w:World} {g cap:Nat} {l:List Nat} (hrow:lQB w g (dgs l)) (hl:l.length≤3) (hd:∀ x∈l,x<8):Calls prog 86 #[.slice (some ⟨g,0,none⟩) l.length cap] w fun e w'=>e=.returned (.int .i64 (asn l:Nat))∧aQA [] w w':=by
 go_enter func86,ntmps86
 go_wp2_with fail
 go_loopw [3,9] (fun x y wr=>∃ (k:Nat),y=.int .i64 k∧k≤l.length∧x=.int .i64 (asn (l.take k):Nat)∧aQA [] w wr) (fun _ y _=>((l.length:Int) - intOf y).toNat)
 case atStart=>exact ⟨0,rfl,by omega,by simp [asn,asnF],aQA.refl _ _⟩
 case round=>
  obtain ⟨k,rfl,hk,rfl,hkp⟩:=hrel;by_cases hkl:k<l.length
  ·have hkI:(k:Int)<l.length:=(by omega);obtain ⟨d,hdk⟩:∃ d,l[k]?=some d:=⟨_,List.getElem?_eq_getElem hkl⟩;have hd8:=hd d (List.mem_of_getElem? hdk);have c0:=(hrow.keepsE hkp (by simp)).cell (i:=k) (x:=(d:Int)) (by simp [dgs,hdk]);have hfew:=asnF_few (l.take k) 0;have hnext:asn (l.take (k+1))=asn (l.take k)+r3 d * 2 ^ (3 * k):=by
    unfold asn;rw [List.take_add_one,hdk,Option.toList_some,asnF_snoc,List.length_take,Nat.zero_add,Nat.min_eq_left (by omega)]
   have hA0:asn (l.take k)<2 ^ (3 * k):=by
    rw [List.length_take,Nat.zero_add,Nat.min_eq_left (by omega)] at hfew;unfold asn;have:=Nat.two_pow_pos (3 * 0);omega
   have Hnext:=hide hnext;generalize hA:asn (l.take k)=A at *;have HA0:=hide hA0;have hk3:k<3:=(by omega);rename World=>wo;clear hnext hfew hA0;go_wp2_with fail
   clear c0;go_loopw [3,14] (fun x y wr=>∃ (i:Nat),y=.int .i64 i∧i≤3∧x=.int .i64 (A+r3 d % 2 ^ i * 2 ^ (3 * k):Nat)∧aQA [] wo wr) (fun _ y _=>((3:Int) - intOf y).toNat)
   case atStart=>exact ⟨0,rfl,by omega,by simp [Nat.mod_one],aQA.refl _ _⟩
   case round=>
    obtain ⟨i,rfl,hi,rfl,hkp2⟩:=hrel;by_cases hil:i<3
    ·have hiI:(i:Int)<3:=(by omega);obtain ⟨m,hm⟩:∃ m:Nat,2 - i=m:=⟨_,rfl⟩;have hmI:IntKind.i64.wrap (2 - (i:Int))=(m:Int):=by rw [IntKind.wrap_i64];omega
     have hvar:=hide (fun (W:World)=>rQD W k i (by omega) (by omega));have hm3:m<3:=(by omega);have hdI:(d:Int)<8:=(by omega);have hbq:=and_bit (d:=d) (m:=m) hd8;have hor:=asn_or (A:=A) (d:=d) (k:=k) (i:=i) (b:=d / 2 ^ m % 2) hd8 hk3 hil HA0.out (by rw [hm]);generalize d / 2 ^ m % 2=b at *;have Hor:=hide hor;generalize hC:A+r3 d % 2 ^ i * 2 ^ (3 * k)=C at *;generalize hD:A+r3 d % 2 ^ (i+1) * 2 ^ (3 * k)=D at *;have HD:=hide hD;clear hm hA hC hdk hor hD;go_wp2_with fail
     go_region_held3 (fun _=>True) (first | exact trivial)
      (first
      | (go_at_call 144
         refine (hvar.out _).mono ?_
         rintro e W5 ⟨rfl,rfl⟩))
     all_goals
      rw [Hor.out];go_wp2_with fail
      go_roundw
      ·exact ⟨i+1,by simp,by omega,by rw [HD.out],hkp2.trans (aQA.drew [] _)⟩
      ·simp only [intOf];omega
    ·have hiI:¬ (i:Int)<3:=(by omega);have e:i=3:=(by omega);subst e;have e8:r3 d % 2 ^ 3=r3 d:=Nat.mod_eq_of_lt (r3_lt d);rw [e8];generalize hD:A+r3 d * 2 ^ (3 * k)=D at *;clear e8 hD;go_wp2_with fail
     go_roundw
     ·exact ⟨k+1,by simp,by omega,by rw [Hnext.out],hkp.trans hkp2⟩
     ·simp only [intOf];omega
  ·have hkI:¬ (k:Int)<l.length:=(by omega);have e:k=l.length:=(by omega);subst e;rw [List.take_length];go_wp2_with fail
   go_ret
   exact ⟨rfl,hkp⟩
end
section
open Go.RowKit
section
variable {w:World} {bb gr cr:Nat} {B:SB} {S:ST} {rs:List RelX} {x0 x1 x3:Value}
theorem layer_says (h:Bse w bb B S gr cr rs x0 x1 x3) {i:Nat} {r:RelX} (hi:rs[i]?=some r):Calls prog 53 #[.pointer (some ⟨bb,0,none⟩),.int .i64 (i:Int)] w fun e w'=>e=.returned (.int .i64 (r.layer:Int))∧w' = w:=by
 obtain ⟨cs,hc,hcs⟩:=h.rel;have hil:(i:Int)<rs.length:=by have:=(List.getElem?_eq_some_iff.1 hi).1;omega
 have g1:w.cell? ⟨gr,i * 5+1,none⟩=some (.int .i64 (r.layer:Int)):=by rw [hc.cell];exact (hcs i r hi).c1
 have g2:=h.cells.cell 2;simp at g2;clear hi;go_enter func53,ntmps53
 go_wp2
 go_ret
 exact ⟨rfl,rfl⟩
theorem columns_says (h:Bse w bb B S gr cr rs x0 x1 x3) {i:Nat} {r:RelX} (hi:rs[i]?=some r):Calls prog 83 #[.pointer (some ⟨bb,0,none⟩),.int .i64 (i:Int)] w fun e w'=>e=.returned (.int .i64 (r.n:Int))∧w' = w:=by
 obtain ⟨cs,hc,hcs⟩:=h.rel;have hil:(i:Int)<rs.length:=by have:=(List.getElem?_eq_some_iff.1 hi).1;omega
 have g1:w.cell? ⟨gr,i * 5,none⟩=some (.slice r.sa r.n r.cc):=by rw [hc.cell];exact (hcs i r hi).c0
 have g2:=h.cells.cell 2;simp at g2;clear hi;go_enter func83,ntmps83
 go_wp2
 go_ret
 exact ⟨rfl,rfl⟩
def AloTo (B:SB) (w:World) (S:ST) (l:List Nat) (e:Ending) (w':World):Prop:=∃ f S',e=.returned (.int .i64 f)∧EngS w' B S'∧aQA B.own w w'∧Ext S S'∧S'.next≤S.next+122868∧Rep S' f l.length (fun t=>t=l)
theorem tup_is {σ:Int→Bool} {l:List Nat}:(∀ (p d:Nat),p<l.length→l[p]?=some d→numA σ p=d)↔tupF σ 0 l.length=l:=by
 constructor
 ·intro h;apply List.ext_getElem?;intro p;by_cases hp:p<l.length
  ·rw [tupF_at σ _ 0 p hp,Nat.zero_add,List.getElem?_eq_getElem hp,h p _ hp (List.getElem?_eq_getElem hp)]
  ·rw [List.getElem?_eq_none (by rw [tupF_len];omega),List.getElem?_eq_none (by omega)]
 ·intro h p d hp hd;have:=tupF_at σ l.length 0 p hp;rw [h,hd,Nat.zero_add] at this;exact (Option.some.inj this).symm
theorem alone_calls (h:Bse w bb B S gr cr rs x0 x1 x3) {g cap:Nat} {l:List Nat} (hrow:lQB w g (dgs l)) (hg:g∉B.own) (hl:l.length≤3) (hd:∀ x∈l,x<8) (hn:S.next+200000<lim) :
  Calls prog 89 #[.pointer (some ⟨bb,0,none⟩),.slice (some ⟨g,0,none⟩) l.length cap] w (AloTo B w S l):=by
 have Hl:=hide hn;clear hn;go_enter func89,ntmps89
 go_wp2_with fail
 go_loopw [5,10] (fun x y wr=>∃ (j:Nat) (q:Int) (S1:ST),x=.int .i64 q∧y=.int .i64 j∧j≤l.length∧EngS wr B S1∧aQA B.own w wr∧Ext S S1∧Hid (S1.next≤S.next+40956 * j)∧RepB S1 q (fun σ=>∀ (p d:Nat),p<j→l[p]?=some d→numA σ p=d)) (fun _ y _=>((l.length:Int) - intOf y).toNat)
 case atStart=>exact ⟨0,1,S,rfl,rfl,by omega,h.eng,aQA.refl _ _,Ext.refl S,hide (by omega),qQJ S,fun σ=>by simp [pQC]⟩
 case round=>
  obtain ⟨j,q,S1,rfl,rfl,hj,hE,hk,hx,hn,hq⟩:=hrel;by_cases hjl:j<l.length
  ·have hjI:(j:Int)<l.length:=(by omega);obtain ⟨d,hdj⟩:∃ d,l[j]?=some d:=⟨_,List.getElem?_eq_getElem hjl⟩;have hd8:=hd d (List.mem_of_getElem? hdj);have c0:=(hrow.keepsE hk hg).cell (i:=j) (x:=(d:Int)) (by simp [dgs,hdj]);have hb:=(h.store hk hE).bs;have g4:=hb.cell;have heq:=hide (fun (W:World) (k:aQA [] wr W)=>vQL (hE.keeps0 k) (hb.keeps k (by simp)) j (by omega) ⟨false,(d:Int)⟩ ⟨by show (0:Int)≤d;omega,by show (d:Int)<8;omega,fun q=>by simp at q⟩ (by have:=Hl.out;have:=hn.out;omega));have h7:=hide (fun (W7:World) (k:aQA B.own wr.drew W7)=>((hb.keeps (aQA.drew [] wr) (by simp)).own k).cell);have Hdj:=hide hdj;clear hdj;go_wp2_with fail
   go_region_held3 (fun w'=>w'.cell? ⟨bb,4,none⟩=some (.pointer (some ⟨B.b,0,none⟩))) (first | exact g4 | exact h7.out _ (k5.trans k6) | exact h7.out _ k5)
    (first
    | (go_at_call 149
       refine (heq.out _ (aQA.drew [] _)).mono ?_
       rintro e W5 ⟨t,S5,rfl,hE5,k5,x5,n5,hr5⟩)
    | (go_at_call 148
       refine (and_E hE5 (f:=q) (g:=t) (hq.ext x5 hE.wf hE5.wf) hr5 (by have:=Hl.out;have:=hn.out;omega)).mono ?_
       rintro e W6 ⟨t6,S6,rfl,hE6,k6,x6,n6,hr6⟩))
   all_goals
    have Hn6:=hide (show S6.next≤S1.next+40956 by omega)
    have hr7:RepB S6 t6 (fun σ=>∀ (p d:Nat),p<j+1→l[p]?=some d→numA σ p=d):=⟨hr6.1,fun σ=>by
     rw [hr6.2];constructor
     ·rintro ⟨h1,h2⟩ p d' hp hd';by_cases e:p<j
      ·exact h1 p d' e hd'
      ·have e2:p=j:=(by omega);subst e2;rw [Hdj.out] at hd';cases hd';simpa [tnum] using h2
     ·intro hh
      exact ⟨fun p d' hp hd'=>hh p d' (by omega) hd',by have:=hh j d (by omega) Hdj.out;simpa [tnum] using this⟩⟩
    have Hr7:=hide hr7;have kF:aQA B.own w W6:=(hk.trans ((aQA.drew [] wr).mono (by simp))).trans (k5.trans k6);clear heq h7 g4 c0 n5 n6 hr6 hr7;go_wp2_with fail
    go_roundw
    ·exact ⟨j+1,t6,S6,rfl,by simp,by omega,hE6,kF,hx.trans (x5.trans x6),hide (by have:=hn.out;have:=Hn6.out;push_cast;omega),Hr7.out⟩
    ·simp only [intOf];omega
  ·have hjI:¬ (j:Int)<l.length:=(by omega);have e:j=l.length:=(by omega);subst e;have Hq:=hide hq;clear hq;go_wp2_with fail
   go_ret
   exact ⟨q,S1,rfl,hE,hk,hx,by have:=hn.out;omega,Hq.out.1,fun σ=>by rw [Hq.out.2];exact tup_is⟩
end
end
section
open Go.RowKit
section
variable {w:World} {bb gr cr:Nat} {B:SB} {S:ST} {rs:List RelX} {x0 x1 x3:Value}
theorem setFa_rm {i:Nat} {r:RelX} (hi:rs[i]?=some r) (f:Int):(rs.set i { r with fa:=f }).map (·.rm)=rs.map (·.rm):=by
 apply List.ext_getElem?;intro p;rw [List.getElem?_map,List.getElem?_map,List.getElem?_set];by_cases e:i=p
 ·subst e;rw [if_pos rfl,if_pos (List.getElem?_eq_some_iff.1 hi).1,hi];rfl
 ·rw [if_neg e]
theorem setFa_mem {i:Nat} {r:RelX} (hi:rs[i]?=some r) (f:Int):∀ q∈rs.set i { r with fa:=f },∃ q'∈rs,q.rm=q'.rm∧q.L=q'.L∧q.n=q'.n:=fun q hq=>by
 obtain ⟨p,hp,rfl⟩:=List.getElem_of_mem hq;rw [List.getElem_set];split
 ·exact ⟨r,List.mem_of_getElem? hi,rfl,rfl,rfl⟩
 ·exact ⟨_,List.getElem_mem _,rfl,rfl,rfl⟩
theorem Bse.setFa (h:Bse w bb B S gr cr rs x0 x1 x3) {i:Nat} {r:RelX} (hi:rs[i]?=some r) (f:Int):Bse (w.setCell ⟨gr,i * 5+2,none⟩ (.int .i64 f)) bb B S gr cr (rs.set i { r with fa:=f }) x0 x1 x3:=by
 have k:=aQA.setCell w ⟨gr,i * 5+2,none⟩ (.int .i64 f);obtain ⟨cs,hc,hcs⟩:=h.rel;have hm:=setFa_mem hi f;refine ⟨by rw [List.length_set];exact h.cells.keeps k (by simpa using h.bbgr),h.eng.keeps k (fun z hz hm=>h.grB (by simp only [List.mem_singleton] at hm;rw [←hm];exact hz)),⟨_,hc.setCell (i * 5+2) (.int .i64 f),RelsC.set hcs ((hcs i r hi).setFa f) (fun j q hj hq=>hq.other (by omega))⟩,fun q hq=>?_,h.bbB,h.grB,fun q hq=>?_,h.bbgr,fun q hq=>?_,fun q hq=>?_,by rw [setFa_rm hi];exact h.nodup,by rw [List.length_set];exact h.few,fun q hq=>?_⟩;all_goals obtain ⟨q',hq',e1,e2,e3⟩:=hm q hq
 ·rw [e1,e2];exact (h.maps q' hq').kept k (by simpa using fun e=>h.grrm q' hq' e.symm)
 ·rw [e1];exact h.rmB q' hq'
 ·rw [e1];exact h.bbrm q' hq'
 ·rw [e1];exact h.grrm q' hq'
 ·rw [e3];exact h.cols q' hq'
theorem ClOk.setFa {c:iQA} (h:ClOk rs c) {i:Nat} {r:RelX} (hi:rs[i]?=some r) (f:Int):ClOk (rs.set i { r with fa:=f }) c:=by
 have at_:∀ a,AtOk rs a→AtOk (rs.set i { r with fa:=f }) a:=fun a ha=>by
  obtain ⟨q,h1,h2,h3⟩:=ha.rel;refine ⟨?_,ha.tms⟩;rw [List.getElem?_set];by_cases e:i=a.rel
  ·rw [if_pos e,if_pos (List.getElem?_eq_some_iff.1 hi).1];rw [←e,hi] at h1;cases h1;exact ⟨_,rfl,h2,h3⟩
  ·rw [if_neg e];exact ⟨q,h1,h2,h3⟩
 exact ⟨at_ _ h.head,fun l hl=>at_ _ (h.lits l hl),h.few⟩
def upF (Fs:Nat→List Nat→Prop) (i:Nat) (F:List Nat→Prop):Nat→List Nat→Prop:=fun j=>if j=i then F else Fs j
theorem AllS.setFa {Fs:Nat→List Nat→Prop} {rks:Nat→List Nat→Option Nat} (h:AllS S rs Fs rks) {i:Nat} {r:RelX} (hi:rs[i]?=some r) {f:Int} {F:List Nat→Prop} (hf:Rep S f r.n F):AllS S (rs.set i { r with fa:=f }) (upF Fs i F) rks:=fun j q hj=>by
 rw [List.getElem?_set] at hj;unfold upF;by_cases e:i=j
 ·subst e;rw [if_pos rfl,if_pos (List.getElem?_eq_some_iff.1 hi).1] at hj;cases hj;rw [if_pos rfl];exact ⟨hf,(h i r hi).tu,(h i r hi).ranks⟩
 ·rw [if_neg e] at hj;rw [if_neg (fun q=>e q.symm)];exact h j q hj
end
theorem setFa_calls {w:World} {bb gr cr:Nat} {B:SB} {S:ST} {rs:List RelX} {x0 x1:Value} {ka:Option Addr} {ks:List CluX} {kc:Nat} (h:Bse w bb B S gr cr rs x0 x1 (.slice ka ks.length kc)) {Fs:Nat→List Nat→Prop} {rks:Nat→List Nat→Option Nat} (ha:AllS S rs Fs rks) (hks:KlsAt w (ftp B gr rs) ka ks) (hok:∀ k∈ks,ClOk rs k.c∧0<k.c.lits.length) (h52:ks.length≤52) {i:Nat} {r:RelX} (hi:rs[i]?=some r) (hlay:r.layer≤rs.length) {f:Int} {F:List Nat→Prop} (hf:Rep S f r.n F) (hl:S.next+250000000000000<lim) :
  Calls prog 87 #[.pointer (some ⟨bb,0,none⟩),.int .i64 (i:Int),.int .i64 f] w (WrkTo bb gr cr B (rs.set i { r with fa:=f }) x0 x1 (.slice ka ks.length kc) (upF Fs i F) ks r.layer rks w S):=by
 have hil:=(List.getElem?_eq_some_iff.1 hi).1;have hiI:(i:Int)<rs.length:=by omega
 have hb1:=h.setFa hi f;have kS:=aQA.setCell w ⟨gr,i * 5+2,none⟩ (.int .i64 f);have hft:ftp B gr (rs.set i { r with fa:=f })=ftp B gr rs:=by unfold ftp;rw [setFa_rm hi]
 have hwk:=hide (work_calls hb1 (ha.setFa hi hf) (by rw [hft];exact hks.keeps kS (fun j hj=>.inl (by simp only [List.mem_singleton] at hj;rw [hj];simp [ftp]))) (fun k hk=>⟨(hok k hk).1.setFa hi f,(hok k hk).2⟩) h52 (by rw [List.length_set];omega) r.layer (by rw [List.length_set];exact hlay) hl);obtain ⟨cs,hc,hcs⟩:=h.rel;have g2:=h.cells.cell 2;simp at g2;have q2:w.cell? ⟨gr,i * 5+2,none⟩=some (.int .i64 r.fa):=by rw [hc.cell];exact (hcs i r hi).c2
 have z2:=hc.frozen (i * 5+2);have q1:(w.setCell ⟨gr,i * 5+2,none⟩ (.int .i64 f)).cell? ⟨gr,i * 5+1,none⟩=some (.int .i64 (r.layer:Int)):=by
  rw [(hc.setCell (i * 5+2) (.int .i64 f)).cell];exact ((hcs i r hi).setFa f).c1
 have Hft:=hide hft;clear hi hil hft hl;go_enter func87,ntmps87
 go_wp2_with fail
 refine hwk.out.mono ?_;rintro e W5 ⟨rfl,rs',S',rk',h1,h2,h3,h4,h5,h6⟩;clear hwk q1 q2 z2 g2;go_wp2_with fail
 go_end0
 exact ⟨rfl,rs',S',rk',h1,h2,(kS.mono (fun j hj=>by simp only [List.mem_singleton] at hj;rw [hj];simp [ftp])).trans h3,h4,h5,h6⟩
end
end Go.Proofs.YtgjomknpjigkhaaGreatDoor
