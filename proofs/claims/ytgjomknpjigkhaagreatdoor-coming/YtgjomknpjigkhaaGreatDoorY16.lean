import Derived.Test.YtgjomknpjigkhaaGreatDoorY15
namespace Go.Proofs.YtgjomknpjigkhaaGreatDoor
open Go.Proofs.Tryz
set_option maxRecDepth 100000
set_option maxHeartbeats 4000000
section
inductive Nu (E:Nat→Nat→Prop) (k:Nat):Nat→Nat→Nat→Prop
 | one {x y:Nat}:E x y→Nu E k 1 x y
 | cons {n x z y:Nat}:E x z→z<k→Nu E k n z y→Nu E k (n+1) x y
theorem Nu.pos {E:Nat→Nat→Prop} {k n x y:Nat} (h:Nu E k n x y):0<n:=by
 cases h <;> omega
theorem Nu.trans {E:Nat→Nat→Prop} {k n m x z y:Nat} (h:Nu E k n x z) (hz:z<k) (h2:Nu E k m z y):Nu E k (n+m) x y:=by
 induction h with
 | one h=>rw [Nat.add_comm];exact .cons h hz h2
 | cons h1 h3 _ ih=>rw [Nat.add_right_comm];exact .cons h1 h3 (ih hz h2)
theorem Nu.last {E:Nat→Nat→Prop} {k n x y:Nat} (h:Nu E k (n+1) x y) (hn:0<n):∃ z,z<k∧Nu E k n x z∧E z y:=by
 induction n generalizing x with
 | zero=>omega
 | succ n ih=>
  cases h with
  | @cons m _ z _ h1 h2 h3=>
   cases n with
   | zero=>
    cases h3 with
    | one h4=>exact ⟨z,h2,.one h1,h4⟩
    | cons _ _ h5=>exact absurd h5.pos (by omega)
   | succ n=>
    obtain ⟨u,hu,h4,h5⟩:=ih h3 (by omega);exact ⟨u,hu,.cons h1 h2 h4,h5⟩
theorem Nu.one_iff {E:Nat→Nat→Prop} {k x y:Nat}:Nu E k 1 x y↔E x y:=by
 constructor
 ·intro h;cases h with
  | one h=>exact h
  | cons _ _ h=>exact absurd h.pos (by omega)
 ·exact .one
end
section
open Go.RowKit
def TD (cs:List Ae) (HS:Nat→List (List Nat→Prop)) (i:Nat) (l:List Nat):Prop:=∃ (p:Nat) (c:Ae),cs[p]?=some c∧c.head.rel=i∧HU c.head.terms (fun ν=>NE (HS p) c.lits.length ν) l
def aF (cs:List Ae) (HS:Nat→List (List Nat→Prop)) (Xf:Nat→List Nat→Prop) (i:Nat) (l:List Nat):Prop:=
 ∃ (p:Nat) (c:Ae) (k:Nat) (a:Bh×Bool),cs[p]?=some c∧c.head.rel=i∧c.lits[k]?=some a∧HU c.head.terms (fun ν=>FP Xf a ν∧NE (Gk (HS p) (c.lits.map (FP Xf)) c.lits.length) c.lits.length ν) l
def hsC (cs:List Ae) (HS:Nat→List (List Nat→Prop)) (Xf:Nat→List Nat→Prop) (p:Nat):List (List Nat→Prop):=match cs[p]? with | some c=>Gk (HS p) (c.lits.map (FP Xf)) c.lits.length | none=>HS p
theorem Wr {us:List Gh} {cs:List Ae} (hc:us.map (·.c)=cs) (hh:∀ u∈us,u.hs.length=u.c.lits.length) (HS:Nat→List (List Nat→Prop)) (i:Nat) (l:List Nat):I9 us HS us.length i l↔TD cs HS i l:=by
 subst hc;constructor
 ·rintro ⟨p,u,_,h2,h3,h4⟩;exact ⟨p,u.c,by rw [AX,h2];rfl,h3,by rw [←hh u (AF h2)];exact h4⟩
 ·rintro ⟨p,c,h2,h3,h4⟩;rw [AX] at h2;obtain ⟨u,hu,rfl⟩:=Cn.1 h2;exact ⟨p,u,(AL.1 hu).1,hu,h3,by rw [hh u (AF hu)];exact h4⟩
theorem ZB {us:List Gh} {cs:List Ae} (hc:us.map (·.c)=cs) (HS:Nat→List (List Nat→Prop)) (Xf:Nat→List Nat→Prop) (i:Nat) (l:List Nat):JT us HS Xf us.length 0 i l↔aF cs HS Xf i l:=by
 subst hc;constructor
 ·rintro ⟨p,u,k,a,_,h2,h3,h4,h5⟩;exact ⟨p,u.c,k,a,by rw [AX,h2];rfl,h3,h4,h5⟩
 ·rintro ⟨p,c,k,a,h2,h3,h4,h5⟩;rw [AX] at h2;obtain ⟨u,hu,rfl⟩:=Cn.1 h2;exact ⟨p,u,k,a,.inl (AL.1 hu).1,hu,h3,h4,h5⟩
theorem jF {us:List Gh} {cs:List Ae} (hc:us.map (·.c)=cs) (HS:Nat→List (List Nat→Prop)) (Xf:Nat→List Nat→Prop) (p:Nat):Z0 us HS Xf us.length p=hsC cs HS Xf p:=by
 subst hc;unfold Z0 hsC;rw [AX];split
 ·rename_i h;rw [AB h];rfl
 ·rename_i h;rw [Ac (by omega)];rfl
structure Rnd where
 rk:Nat→List Nat→Option Nat
 hs:Nat→List (List Nat→Prop)
 x:Nat→List Nat→Prop
noncomputable def Gt (cs:List Ae) (n:Nat) (rk0:Nat→List Nat→Option Nat) (hs0:Nat→List (List Nat→Prop)):Nat→Rnd
 | 0=>⟨rk0,hs0,J0 (TD cs hs0) rk0 n⟩
 | t+1=>⟨EN (Gt cs n rk0 hs0 t).rk (Gt cs n rk0 hs0 t).x (t+1) n,hsC cs (Gt cs n rk0 hs0 t).hs (Gt cs n rk0 hs0 t).x,J0 (aF cs (Gt cs n rk0 hs0 t).hs (Gt cs n rk0 hs0 t).x) (EN (Gt cs n rk0 hs0 t).rk (Gt cs n rk0 hs0 t).x (t+1) n) n⟩
theorem iA (cs:List Ae) (n:Nat) (rk0:Nat→List Nat→Option Nat) (hs0:Nat→List (List Nat→Prop)) (t:Nat) {i:Nat} {l:List Nat} (hi:i<n) (hx:(Gt cs n rk0 hs0 t).x i l):(Gt cs n rk0 hs0 t).rk i l=none:=by
 have h1:((Gt cs n rk0 hs0 t).rk i l).isSome≠true:=by
  cases t with
  | zero=>exact hx.2 hi
  | succ t=>exact hx.2 hi
 cases h:(Gt cs n rk0 hs0 t).rk i l with
 | none=>rfl
 | some m=>rw [h] at h1;simp at h1
def cM (n:Nat) (rk:List Nat→Option Nat):Nat:=((C7 n).filter (fun l=>(rk l).isNone)).length
def EY (rks:Nat→List Nat→Option Nat):List Nat→Nat→Nat
 | [],_=>0
 | n :: ns,i=>cM n (rks i)+EY rks ns (i+1)
theorem OH {α:Type} {p q:α→Bool} (h:∀ x,p x=true→q x=true):∀ l:List α,(l.filter p).length≤(l.filter q).length
 | []=>AS _
 | a :: l=>by
  have ih:=OH h l;cases hp:p a
  ·cases hq:q a
   ·simpa [hp,hq] using ih
   ·simp only [CC,hp,hq,if_true,AV];simp;omega
  ·have hq:=h a hp;simp only [CC,hp,hq,if_true,AV];omega
theorem Sf {α:Type} {p q:α→Bool} (h:∀ x,p x=true→q x=true):∀ (l:List α) (x:α),x∈l→q x=true→p x=false→(l.filter p).length<(l.filter q).length
 | [],_,hx,_,_=>by cases hx
 | a :: l,x,hx,h1,h2=>by
  have le:=OH h l;rcases AJ.1 hx with rfl | hx
  ·simp only [CC,h1,h2,if_true,AV];simp;omega
  ·have ih:=Sf h l x hx h1 h2;cases hp:p a
   ·cases hq:q a
    ·simpa [hp,hq] using ih
    ·simp only [CC,hp,hq,if_true,AV];simp;omega
   ·have hq:=h a hp;simp only [CC,hp,hq,if_true,AV];omega
theorem Nc {rks rks':Nat→List Nat→Option Nat} (h:∀ i l,(rks' i l).isNone=true→(rks i l).isNone=true):∀ (ns:List Nat) (i:Nat),EY rks' ns i≤EY rks ns i
 | [],_=>AS _
 | _ :: ns,i=>Nat.add_le_add (OH (h i) _) (Nc h ns (i+1))
theorem Nb {rks rks':Nat→List Nat→Option Nat} (h:∀ i l,(rks' i l).isNone=true→(rks i l).isNone=true) {l:List Nat}:∀ (ns:List Nat) (i j n:Nat),ns[j]?=some n→l∈C7 n→rks (i+j) l=none→(rks' (i+j) l).isNone=false→EY rks' ns i<EY rks ns i
 | [],_,_,_,hj,_,_,_=>by simp at hj
 | m :: ns,i,0,n,hj,hl,h1,h2=>by
  have e:m=n:=by simpa using hj
  subst e;exact Nat.add_lt_add_of_lt_of_le (Sf (h i) _ l hl (by show ((rks i l).isNone)=true;rw [show i=i+0 by omega,h1];rfl) h2) (Nc h ns (i+1))
 | m :: ns,i,j+1,n,hj,hl,h1,h2=>by
  have e:i+(j+1)=i+1+j:=by omega
  rw [e] at h1 h2;exact Nat.add_lt_add_of_le_of_lt (OH (h i) _) (Nb h ns (i+1) j n (by simpa using hj) hl h1 h2)
theorem Wp {rks:Nat→List Nat→Option Nat} {X:Nat→List Nat→Prop} {k n:Nat} (i:Nat) (l:List Nat) (h:(EN rks X k n i l).isNone=true):(rks i l).isNone=true:=by
 unfold EN at h;split at h
 ·unfold Fw at h;split at h
  ·simp at h
  ·exact h
 ·exact h
theorem ZE {rks:Nat→List Nat→Option Nat} {X:Nat→List Nat→Prop} {k:Nat} {ns:List Nat} {j n:Nat} {l:List Nat} (hj:ns[j]?=some n) (hl:l∈C7 n) (hX:X j l) (h0:rks j l=none):EY (EN rks X k ns.length) ns 0<EY rks ns 0:=by
 refine Nb Wp ns 0 j n hj hl (by rw [Ad];exact h0) ?_;rw [Ad];have hjl:=(AL.1 hj).1;unfold EN Fw;rw [if_pos hjl,if_pos hX];rfl
theorem GL.some {S:ST} (hw:WF S) {f:Int} {c:Nat} {R:List Nat→Prop} (h:GL S f c R) (hf:f≠0):∃ l,l∈C7 c∧R l:=by
 refine Classical.byContradiction fun hn=>hf ?_;refine YB hw h.1 (E2 S) fun σ=>?_;rw [CF];cases hd:S.den f σ with
 | false=>rfl
 | true=>exact absurd ⟨_,L5 σ c 0,(h.2 σ).1 hd⟩ hn
theorem jI {fs:List Int} (h:gB fs fs.length=true):∃ (j:Nat) (f:Int),fs[j]?=some f∧f≠0:=by
 unfold gB at h;rw [Bm,List.any_eq_true] at h;obtain ⟨f,hf,h1⟩:=h;obtain ⟨j,hj,rfl⟩:=A3 hf;exact ⟨j,_,AB hj,by simpa using h1⟩
theorem jJ {fs:List Int} (h:gB fs fs.length=false):∀ (j:Nat) (f:Int),fs[j]?=some f→f=0:=fun j f hf=>by
 unfold gB at h;rw [Bm,List.any_eq_false] at h;have:=h f (AF hf);simpa using this
theorem ES.swept {S S':ST} {rs:List A9} {Fs:Nat→List Nat→Prop} {rks:Nat→List Nat→Option Nat} (h:ES S rs Fs rks) (hr:∀ (f:Int) (c:Nat) (R:List Nat→Prop),f∈F7 rs→GL S f c R→GL S' f c R):ES S' rs Fs rks:=fun i r hi=>
 have hm:r∈rs:=AF hi
 ⟨hr _ _ _ (A2.2 ⟨r,hm,by simp⟩) (h i r hi).fa,hr _ _ _ (A2.2 ⟨r,hm,by simp⟩) (h i r hi).tu,(h i r hi).ranks⟩
theorem Fx.swept {S S':ST} {rs:List A9} {fs:List Int} {Xs:Nat→List Nat→Prop} (h:Fx S rs fs Xs) (hr:∀ (f:Int) (c:Nat) (R:List Nat→Prop),f∈fs→GL S f c R→GL S' f c R):Fx S' rs fs Xs:=⟨h.1,fun i r f h1 h2=>hr _ _ _ (AF h2) (h.2 i r f h1 h2)⟩
theorem J4.swept {S S':ST} {us:List Gh} {HS:Nat→List (List Nat→Prop)} (h:J4 S us HS) (hr:∀ (f:Int) (c:Nat) (R:List Nat→Prop),f∈Fc us→GL S f c R→GL S' f c R):J4 S' us HS:=fun i u hi=>⟨(h i u hi).1,fun k y H h1 h2=>hr _ _ _ (A2.2 ⟨u,AF hi,AF h1⟩) ((h i u hi).2 k y H h1 h2)⟩
theorem FZ.ftp_lt {w:World} {bb gr cr:Nat} {B:SB} {S:ST} {rs:List A9} {x0 x1 x3:Value} (h:FZ w bb B S gr cr rs x0 x1 x3):∀ j∈ftp B gr rs,j<w.heap.size:=fun j hj=>by
 simp only [ftp,AJ,AC,AR] at hj;rcases hj with rfl | ⟨r,hr,rfl⟩ | hj
 ·obtain ⟨cs,hc,_⟩:=h.rel;exact hc.lt
 ·exact (h.maps r hr).lt
 ·exact h.eng.sat.lt j hj
theorem LX.rus {w w':World} {S:ST} {rks:Nat→List Nat→Option Nat} {v:Value} {us:List Gh} {X T:List Nat} (h:LX w' w.heap.size S rks v us) (hX:∀ j∈X,j<w.heap.size) (hclu:∀ u∈us,JC w X u.toCluX) (k:AA T w w') (hT:∀ j∈T,j∈X):∃ ua gu uc,v=.slice ua us.length uc∧(0<us.length→ua=some ⟨gu,0,none⟩)∧FW w' X gu us:=by
 have hclu':∀ u∈us,JC w' (us.map (·.gh)++X) u.toCluX:=fun u hu=>((hclu u hu).apart (Y:=us.map (·.gh)++X) (fun j hj=>by
  rcases AC.1 hj with q | q
  ·obtain ⟨x,hx,rfl⟩:=AR.1 q;exact .inr (h.hld x hx).2.1
  ·exact .inl q)).keeps k (fun j hj=>.inl (AC.2 (.inr (hT j hj))))
 have hhld:∀ u∈us,Bt w' u.gh u.hs∧u.gh∉X∧u.hs.length=u.c.lits.length:=fun u hu=>by
  obtain ⟨h1,h2,h3,_,_⟩:=h.hld u hu;exact ⟨h1,fun q=>by have:=hX _ q;omega,h3⟩
 obtain ⟨e0,⟨rfl,e2⟩ | ⟨g,cap,cur,rfl,e2,e3,e4,e5,e6,e7⟩⟩:=id h.row
 ·exact ⟨none,0,0,by rw [e2],fun q=>by omega,⟨fun q=>by omega,fun q=>by omega,hclu',hhld,h.nodup⟩⟩
 ·refine ⟨some ⟨g,0,none⟩,g,cap,rfl,fun _=>rfl,⟨fun _=>⟨cur,⟨_,e3⟩,fun i u hi=>?_⟩,fun _=>⟨fun q=>by have:=hX _ q;omega,fun u hu=>(h.hld u hu).2.2.2.2 g rfl⟩,hclu',hhld,h.nodup⟩⟩;have hil:=(AL.1 hi).1;have hget:∀ q,q<4→cur[i * 4+q]?=(nX u)[q]?:=fun q hq=>by
   rw [←gY hi hq,←e7,List.getElem?_take,if_pos (by omega),C4]
  exact ⟨hget 0 (by omega),hget 1 (by omega),hget 2 (by omega),hget 3 (by omega)⟩
theorem O9 {rs rs':List A9} (h:DM rs rs') (i:Nat):GB rs' i=GB rs i:=by
 unfold GB;cases e:rs[i]? with
 | none=>
  have:rs'[i]?=none:=Ac (by rw [h.1];exact CT.1 e);rw [this]
 | some r=>
  obtain ⟨r',h1,h2⟩:=h.2 i r e;rw [h1];simp [h2.layer]
theorem Lg {rs rs':List A9} (h:DM rs rs') (lay:Nat):FO rs' lay=FO rs lay:=by
 funext k
 unfold FO;rw [O9 h]
theorem Lz.cs {us us':List Gh} {j:Nat} (h:Lz us us' j):us'.map (·.c)=us.map (·.c)∧us'.map (·.gh)=us.map (·.gh):=by
 constructor
 all_goals
  apply Bd;intro p;rw [AX,AX];cases e:us[p]? with
  | none=>
   have:us'[p]?=none:=Ac (by rw [h.1];exact CT.1 e);rw [this]
  | some u=>
   obtain ⟨u',h1,h2,h3,_⟩:=h.2 p u e;rw [h1];first | simp [h3];done | simp [show u'.c=u.c from by rw [h2]]
theorem bE {S:ST} {rs:List A9} {Fs:Nat→List Nat→Prop} {rks:Nat→List Nat→Option Nat} (ha:ES S rs Fs rks) {fs:List Int} {Xs:Nat→List Nat→Prop} (hf:Fx S rs fs Xs) {us:List Gh} {HS:Nat→List (List Nat→Prop)} (hH:J4 S us HS):GH S (fs++F7 rs++Fc us):=fun f hm=>by
 rcases AC.1 hm with hm | hm
 ·rcases AC.1 hm with hm | hm
  ·obtain ⟨i,hi,rfl⟩:=A3 hm;exact (hf.2 i _ _ (AB (by rw [←hf.1];exact hi)) (AB hi)).1
  ·obtain ⟨r,hr,hm⟩:=A2.1 hm;obtain ⟨i,hi,rfl⟩:=A3 hr;have hR:=ha i _ (AB hi);simp only [AJ,BA,or_false] at hm;rcases hm with rfl | rfl
   ·exact hR.fa.1
   ·exact hR.tu.1
 ·obtain ⟨u,hu,hm⟩:=A2.1 hm;obtain ⟨i,hi,rfl⟩:=A3 hu;obtain ⟨k,hk,rfl⟩:=A3 hm;have h1:=hH i _ (AB hi);exact (h1.2 k _ _ (AB hk) (AB (by rw [←h1.1];exact hk))).1
theorem Pv:∀ n,n≤3→(C7 n).length≤512
 | 0,_=>by decide
 | 1,_=>by decide
 | 2,_=>by decide
 | 3,_=>by
  have h:(C7 2).length=64:=by decide
  show ((List.range 8).flatMap fun d=>(C7 2).map (d :: ·)).length≤512;simp only [List.length_flatMap,AZ,h];decide
 | n+4,h=>by omega
theorem UT (rks:Nat→List Nat→Option Nat):∀ (ns:List Nat) (i:Nat),(∀ n∈ns,n≤3)→EY rks ns i≤512 * ns.length
 | [],_,_=>by simp [EY]
 | n :: ns,i,h=>by
  have h1:=UT rks ns (i+1) (fun m hm=>h m (AO _ hm));have h2:=Pv n (h n (CK ..));have h3:cM n (rks i)≤(C7 n).length:=BX _ _;simp only [EY,AV];omega
def C9 (cs:List Ae) (rk:Nat→List Nat→Option Nat) (p:Nat):List (List Nat→Prop):=match cs[p]? with | some c=>c.lits.map (Gb rk) | none=>[]
theorem LX.hol {w:World} {z:Nat} {S:ST} {rks:Nat→List Nat→Option Nat} {v:Value} {us:List Gh} {cs:List Ae} (h:LX w z S rks v us) (hc:us.map (·.c)=cs):J4 S us (C9 cs rks):=fun i u hi=>by
 subst hc;have e:C9 (us.map (·.c)) rks i=u.c.lits.map (Gb rks):=by unfold C9;rw [AX,hi];rfl
 rw [e];exact (h.hld u (AF hi)).2.2.2.1
def LayTo (bb gr cr:Nat) (B:SB) (rs:List A9) (x0 x1 x3:Value) (Fs:Nat→List Nat→Prop) (rk0:Nat→List Nat→Option Nat) (cs:List Ae) (w:World) (S:ST) (e:Ending) (w':World):Prop:=
 e=.returned (.tuple #[])∧∃ rs' S' T,FZ w' bb B S' gr cr rs' x0 x1 x3∧DM rs rs'∧AA (ftp B gr rs) w w'∧S'.next≤S.next+33000000000000∧ES S' rs' Fs (Gt cs rs.length rk0 (C9 cs rk0) (T+1)).rk∧∀ (i:Nat) (r:A9),rs'[i]?=some r→GL S' 0 r.n ((Gt cs rs.length rk0 (C9 cs rk0) T).x i)
def fQ (bb gr cr:Nat) (B:SB) (rs:List A9) (x0 x1 x3:Value) (Fs:Nat→List Nat→Prop) (rk0:Nat→List Nat→Option Nat) (cs:List Ae) (gu:Nat) (ghs:List Nat) (w:World) (S:ST) (x y:Value) (wr:World):Prop:=
 ∃ (t g cf:Nat) (fs:List Int) (S1:ST) (rs1:List A9) (us:List Gh),x=.slice (some ⟨g,0,none⟩) rs.length cf∧y=.int .i64 ((t:Int)+1)∧FZ wr bb B S1 gr cr rs1 x0 x1 x3∧DM rs rs1∧AA (ftp B gr rs) w wr∧w.heap.size≤g∧g∉ghs∧Bt wr g fs∧FW wr (ftp B gr rs) gu us∧Hid (us.map (·.c)=cs)∧Hid (us.map (·.gh)=ghs)∧Fx S1 rs1 fs (Gt cs rs.length rk0 (C9 cs rk0) t).x∧J4 S1 us (Gt cs rs.length rk0 (C9 cs rk0) t).hs∧ES S1 rs1 Fs (Gt cs rs.length rk0 (C9 cs rk0) t).rk∧Hid (S1.next≤S.next+5300000000+10520024570 * t)∧Hid (EY (Gt cs rs.length rk0 (C9 cs rk0) t).rk (rs.map (·.n)) 0+t≤3072)
theorem Um {w:World} {bb gr cr:Nat} {B:SB} {S:ST} {rs:List A9} {x0 x1:Value} {ka:Option Addr} {ks:List CluX} {kc:Nat} (h:FZ w bb B S gr cr rs x0 x1 (.slice ka ks.length kc)) {Fs:Nat→List Nat→Prop} {rks:Nat→List Nat→Option Nat} (ha:ES S rs Fs rks) (hks:Ia w (ftp B gr rs) ka ks) (hok:∀ k∈ks,Jl rs k.c∧0<k.c.lits.length) (h52:ks.length≤52) (h0:0<rs.length) (lay:Nat) (hl:S.next+34000000000000<Fq) :
  Calls prog 150 #[.pointer (some ⟨bb,0,none⟩),.int .i64 (lay:Int)] w (LayTo bb gr cr B rs x0 x1 (.slice ka ks.length kc) Fs (D4 rs Fs rks lay rs.length) ((ks.filter (FO rs lay)).map (·.c)) w S):=by
 have h6:=h.few;have hlv:=AD (Uj h ha lay (by omega));have Hl:=AD hl;clear hl;go_in
 go_wp2_with fail
 refine hlv.out.mono ?_;rintro e W1 ⟨rfl,rs1,S1,hb1,lk1,k1,x1',n1,ha1⟩;have hft:=lk1.ftp (B:=B) (gr:=gr);have hks1:=hks.keeps k1 (fun j hj=>.inl hj);have hbg:=AD (VO hb1 ha1 (by rw [hft];exact hks1) (fun k hk=>⟨(hok k hk).1.like lk1,(hok k hk).2⟩) h52 lay (by have:=Hl.out;omega));have Hn1:=AD n1;clear n1 hlv;go_wp2_with fail
 refine hbg.out.mono ?_;rintro e W2 ⟨v,us,S2,rfl,hB2,hus,hE2,k2,x2,n2⟩;rw [Lg lk1] at hus;have hcs:us.map (·.c)=(ks.filter (FO rs lay)).map (·.c):=by rw [←hus,C8];rfl
 have hb2:=hb1.store k2 hE2;have huk:∀ u∈us,u.toCluX∈ks:=fun u hu=>by
  have:u.toCluX∈us.map (·.toCluX):=AR.2 ⟨u,hu,rfl⟩;rw [hus] at this;exact (Ap.1 this).1
 have hul:us.length≤52:=by
  have e1:=congrArg List.length hus;rw [AZ] at e1;have:=BX (FO rs lay) ks;omega
 have hX:=h.ftp_lt;have hX1:∀ j∈ftp B gr rs,j<W1.heap.size:=fun j hj=>A8 (hX j hj) k1.size;obtain ⟨ua,gu,uc,hv,hua,hru⟩:=hB2.rus (X:=ftp B gr rs) hX1 (fun u hu=>hks1.clu _ (huk u hu)) k2 (fun j hj=>Ck hj);subst hv;have hH2:=hB2.hol hcs;have hgh2:∀ u∈us,w.heap.size≤u.gh:=fun u hu=>Ai k1.size (hB2.hld u hu).2.1;have hok2:∀ u∈us,Jl rs u.c∧0<u.c.lits.length:=fun u hu=>hok _ (huk u hu);have ha2:=ha1.ext x2 hb1.eng.wf hE2.wf;have hfr:=AD (Se (uc:=uc) hb2 ha2 hua (by rw [hft];exact hru) (fun u hu=>(hok2 u hu).1.like lk1) hH2 hul (by have:=Hl.out;have:=Hn1.out;omega));have Hn2:=AD n2;have Hus:=AD hus;clear n2 hbg hus;go_wp2_with fail
 refine hfr.out.mono ?_;rintro e W3 ⟨g,cf,fs,S3,rfl,hg,hrow,hE3,k3,x3',n3,hf3⟩;generalize hCS:(ks.filter (FO rs lay)).map (·.c)=cs at *;generalize hRK:D4 rs Fs rks lay rs.length=rk0 at *;have hb3:=hb2.store k3 hE3;have hru3:=hru.keeps k3 (fun j hj=>.inl (Ck hj));have kw3:AA (ftp B gr rs) w W3:=(k1.trans (k2.mono (fun j hj=>Ck hj))).trans (k3.mono (fun j hj=>Ck hj));have hgh:∀ q∈us.map (·.gh),w.heap.size≤q:=fun q hq=>by obtain ⟨u,hu,rfl⟩:=AR.1 hq;exact hgh2 u hu
 have hgn:g∉us.map (·.gh):=fun q=>by
  obtain ⟨u,hu,e⟩:=AR.1 q;have:=(hB2.hld u hu).1.lt;omega
 have hgw:w.heap.size≤g:=by have:=k1.size;have:=k2.size;omega
 have hf0:Fx S3 rs1 fs (Gt cs rs.length rk0 (C9 cs rk0) 0).x:=hf3.iff (fun i l=>by
  show J0 _ _ _ i l↔J0 _ _ _ i l;unfold J0
  rw [Wr hcs (fun u hu=>(hB2.hld u hu).2.2.1),lk1.1])
 have hH0:J4 S3 us (Gt cs rs.length rk0 (C9 cs rk0) 0).hs:=hH2.ext x3' hE2.wf hE3.wf;have ha0:ES S3 rs1 Fs (Gt cs rs.length rk0 (C9 cs rk0) 0).rk:=ha2.ext x3' hE2.wf hE3.wf;have hns:∀ n∈rs.map (·.n),n≤3:=fun n hn=>by obtain ⟨r,hr,rfl⟩:=AR.1 hn;exact h.cols r hr
 have hm0:=UT rk0 (rs.map (·.n)) 0 hns;rw [AZ] at hm0;have Hn3:=AD (show S3.next≤S.next+5300000000 by have:=Hn1.out;have:=Hn2.out;omega);have Hcs:=AD hcs;have e0:rs1.length=rs.length:=lk1.1;rw [e0];generalize hGH:us.map (·.gh)=ghs at *;have Hst:fQ bb gr cr B rs x0 x1 (.slice ka ks.length kc) Fs rk0 cs gu ghs w S (.slice (some ⟨g,0,none⟩) rs.length cf) (.int .i64 1) W3:=⟨0,g,cf,fs,S3,rs1,us,rfl,rfl,hb3,lk1,kw3,hgw,hgn,hrow,hru3,Hcs,AD hGH,hf0,hH0,ha0,AD (by have:=Hn3.out;omega),AD (by show EY rk0 _ 0+0≤3072;omega)⟩;have hghs:∀ q∈ghs,w.heap.size≤q:=hgh;have hu0:us.length=cs.length:=by rw [←Hcs.out,AZ]
 have hokc:∀ c∈cs,Jl rs c∧0<c.lits.length:=fun c hc=>by
  rw [←Hcs.out] at hc;obtain ⟨u,hu,rfl⟩:=AR.1 hc;exact hok2 u hu
 have Hu0:=AD hu0;have HCS:=AD hCS;have HRK:=AD hRK;have hbbw:=h.cells.lt;have HX:=AD hX;clear hu0 hok2 hm0 hns ha0 hH0 hf0 hgw hgn hgh hru3 hb3 hRK hCS hGH hf3 n3 x3' k3 hE3 hrow hg hfr ha2 hgh2 hH2 hru hX1 huk hb2 hcs k2 x2 hE2 hB2 hks1 hX Hn3 Hn2 Hn1 Hus kw3 hks hok h52 ha ha1 x1' k1 hb1 hft lk1 e0 Hcs;go_wp2_with fail
 go_loopw [5,6] (fun x y wr=>fQ bb gr cr B rs x0 x1 (.slice ka ks.length kc) Fs rk0 cs gu ghs w S x y wr) (fun _ y _=>((4000:Int) - intOf y).toNat)
 case atStart=>exact Hst
 case round=>
  obtain ⟨t,g4,cf4,fs4,S4,rs4,us4,rfl,rfl,hb4,lk4,k4,hg4,hgn4,hrow4,hru4,hc4,hgh4,hf4,hH4,ha4,hn4,hm4⟩:=hrel;have hft4:=lk4.ftp (B:=B) (gr:=gr);have hfl:fs4.length=rs.length:=by rw [hf4.1,lk4.1]
  have er:((t+1:Nat):Int)=(t:Int)+1:=by omega
  have ht:t≤3072:=by have:=hm4.out;omega
  have hgX:g4∉ftp B gr rs:=fun q=>by have:=HX.out _ q;omega
  have hfc:=U2 (cf:=cf4) hb4 ha4 hrow4 (by rw [hft4];exact hgX) hf4 (t+1) (by have:=Hl.out;have:=hn4.out;omega);have Hgn:=AD (fun (q:gB fs4 fs4.length=false)=>jJ q);have Hgs:=AD (fun (q:gB fs4 fs4.length=true)=>jI q);rw [hfl,er] at hfc;rw [hfl] at Hgn Hgs;have Hfc:=AD hfc;have Hfl:=AD hfl;have Hst4:=AD Hst;clear hfc hfl er Hst;go_wp2_with fail
  refine Hfc.out.mono ?_;rintro e W5 ⟨rfl,rs5,S5,hb5,lk5,k5,x5,n5,ha5⟩;rw [hft4] at k5;rw [lk4.1] at ha5;have lk45:=lk4.trans lk5;have Hn5:=AD n5;clear n5 Hfc;cases hgb:gB fs4 rs.length with
  | false=>
   have hz:=AD (Hgn.out hgb);go_wp2_with fail
   go_end0
   rw [HCS.out,HRK.out];refine ⟨rfl,rs5,S5,t,hb5,lk45,k4.trans k5,by have:=hn4.out;have:=Hn5.out;omega,ha5,fun i r hr=>?_⟩;have hif:i<fs4.length:=by rw [Hfl.out,←lk45.1];exact (AL.1 hr).1
   have hff:=AB hif;have e:=hz.out i _ hff;rw [e] at hff;exact ((hf4.like lk5).2 i r 0 hr hff).ext x5 hb4.eng.wf hb5.eng.wf
  | true=>
   obtain ⟨j0,f0,hf0,hne⟩:=Hgs.out hgb;have hj0:j0<rs.length:=by rw [←Hfl.out];exact (AL.1 hf0).1
   have hmiss:EY (Gt cs rs.length rk0 (C9 cs rk0) (t+1)).rk (rs.map (·.n)) 0<EY (Gt cs rs.length rk0 (C9 cs rk0) t).rk (rs.map (·.n)) 0:=by
    obtain ⟨r4,hr4,hlr⟩:=lk4.2 j0 _ (AB hj0);obtain ⟨l,hl1,hl2⟩:=(hf4.2 j0 r4 f0 hr4 hf0).some hb4.eng.wf hne;have hms:=ZE (ns:=rs.map (·.n)) (k:=t+1) (j:=j0) (n:=r4.n) (by rw [AX,AB hj0,hlr.n];rfl) hl1 hl2 (iA cs rs.length rk0 (C9 cs rk0) t hj0 hl2);rw [AZ] at hms;exact hms
   have hul4:us4.length=us.length:=(by rw [Hu0.out,←hc4.out,AZ]);have hru5:=hru4.keeps k5 (fun j hj=>.inl hj);have hft5:=lk45.ftp (B:=B) (gr:=gr);have hok5:∀ u∈us4,Jl rs5 u.c∧0<u.c.lits.length:=fun u hu=>by
    have hm:u.c∈cs:=by rw [←hc4.out];exact AR.2 ⟨u,hu,rfl⟩
    exact ⟨(hokc _ hm).1.like lk45,(hokc _ hm).2⟩
   have hgw4:∀ u∈us4,w.heap.size≤u.gh:=fun u hu=>hghs _ (by rw [←hgh4.out];exact AR.2 ⟨u,hu,rfl⟩);have hown:∀ j∈B.own,j<w.heap.size:=h.eng.sat.lt;have hH5:=hH4.ext x5 hb4.eng.wf hb5.eng.wf;have hf5:=(hf4.like lk5).ext x5 hb4.eng.wf hb5.eng.wf
   have hnx:=UQ (uc:=uc) (cF:=cf4) hb5 ha5 (fun q=>hua (by omega)) (by rw [hft5];exact hru5) (fun u hu e=>by have:=hgw4 u hu;omega) hok5 hH5 (hrow4.keepsE k5 hgX) (fun q=>by
    rcases AC.1 q with q | q
    ·rw [hgh4.out] at q;exact hgn4 q
    ·have:=hown _ q;omega) hf5 (by omega) (by have:=Hl.out;have:=hn4.out;have:=Hn5.out;omega)
   rw [hul4,lk45.1] at hnx;have Hnx:=AD hnx;have Hul4:=AD hul4;clear hnx hul4 hf0 hne hj0;go_wp2_with fail
   refine Hnx.out.mono ?_;rintro e W6 ⟨g6,cf6,fs6,S6,us6,rfl,hg6,hrow6,hE6,k6,x6,n6,hf6,hru6,hlk6,hH6⟩;have Hn6:=AD n6;rw [lk45.1];rw [hft5] at hru6;have hul6:us6.length=us.length:=(by rw [hlk6.1,Hul4.out]);obtain ⟨hcs6,hghs6⟩:=hlk6.cs;rw [hc4.out] at hcs6;rw [hgh4.out] at hghs6
   have kw6:AA (ftp B gr rs) w W6:=(k4.trans k5).trans_new k6 (fun j hj=>by
    rcases AC.1 hj with q | q
    ·exact .inr (hghs j (by rw [←hgh4.out];exact q))
    ·exact .inl (Ck q))
   have hgne:∀ q,q<w.heap.size→q∉B.own→q∉us4.map (·.gh)++B.own:=fun q h1 h2 hm=>by
    rcases AC.1 hm with hm | hm
    ·have:=hghs q (by rw [←hgh4.out];exact hm);omega
    ·exact h2 hm
   have hb6:=hb5.other k6 (hgne bb hbbw h.bbB) (hgne gr (HX.out gr (by simp [ftp])) h.grB) (fun r hr=>hgne r.rm (HX.out r.rm (by rw [←hft5];simp only [ftp,AJ,AC,AR];exact .inr (.inl ⟨r,hr,rfl⟩))) (hb5.rmB r hr)) hE6;have hal6:ES S6 rs5 Fs (Gt cs rs.length rk0 (C9 cs rk0) (t+1)).rk:=ha5.ext x6 hb5.eng.wf hE6.wf
   have hfo6:Fx S6 rs5 fs6 (Gt cs rs.length rk0 (C9 cs rk0) (t+1)).x:=hf6.iff (fun i l=>by
    show J0 _ _ _ i l↔J0 _ _ _ i l;unfold J0
    rw [ZB hc4.out,lk45.1])
   have hho6:J4 S6 us6 (Gt cs rs.length rk0 (C9 cs rk0) (t+1)).hs:=fun i u hi=>by
    have:=hH6 i u hi;rw [jF hc4.out] at this;exact this
   have h46:∀ u∈us6,u.hs.length≤4:=fun u hu=>by
    rw [(hru6.hld u hu).2.2];exact (hokc u.c (by rw [←hcs6];exact AR.2 ⟨u,hu,rfl⟩)).1.few
   have hfl6:fs6.length=rs.length:=(by rw [hfo6.1,lk45.1]);have hsw:=L8 (uc:=uc) hb6 (fun q=>hua (by omega)) hru6 h46 (by omega) (by omega) (Sy (cap:=cf6) hrow6 (by omega)) (by rw [lk45.1];exact h0) (bE hal6 hfo6 hho6);rw [hul6,hfl6] at hsw;have Hsw:=AD hsw;have hg6w:w.heap.size≤g6:=by have:=k4.size;have:=k5.size;omega
   have hg6n:g6∉ghs:=fun q=>by
    rw [←hgh4.out] at q;obtain ⟨u,hu,e⟩:=AR.1 q;have:=(hru5.hld u hu).1.lt;omega
   have hEnd:=AD (fun (W7:World) (S7:ST) (hE7:C3 W7 B S7) (k7:AA B.own W6 W7) (n7:S7.next=S6.next) (hrep:∀ (f:Int) (c:Nat) (R:List Nat→Prop),f∈fs6++F7 rs5++Fc us6→GL S6 f c R→GL S7 f c R)=>
    show fQ bb gr cr B rs x0 x1 (.slice ka ks.length kc) Fs rk0 cs gu ghs w S (.slice (some ⟨g6,0,none⟩) rs.length cf6) (.int .i64 ((t:Int)+1+1)) W7 from
     ⟨t+1,g6,cf6,fs6,S7,rs5,us6,rfl,by simp,hb6.store k7 hE7,lk45,kw6.trans (k7.mono (fun j hj=>Ck hj)),hg6w,hg6n,hrow6.keepsE k7 (fun q=>by have:=hown _ q;omega),hru6.keeps k7 (fun j hj=>.inl (Ck hj)),AD hcs6,AD hghs6,hfo6.swept (fun f c R hf hR=>hrep f c R (by simp [hf]) hR),hho6.swept (fun f c R hf hR=>hrep f c R (by simp [hf]) hR),hal6.swept (fun f c R hf hR=>hrep f c R (by simp [hf]) hR),AD (by have:=hn4.out;have:=Hn5.out;have:=Hn6.out;push_cast;omega),AD (by have:=hm4.out;omega)⟩)
   clear hsw hfl6 hul6 h46 hho6 hfo6 hal6 hgne hcs6 hghs6 hrow6 hf6 hru6 hlk6 hH6 n6 Hnx;go_wp2_with fail
   refine Hsw.out.mono ?_;rintro e W7 ⟨rfl,S7,hE7,k7,n7,hrep⟩;have hI:=AD (hEnd.out W7 S7 hE7 k7 n7 hrep);clear hEnd Hsw hrep n7;go_wp2_with fail
   go_roundw
   ·exact hI.out
   ·simp only [intOf];omega
def Md (rs:List A9) (Fs:Nat→List Nat→Prop) (ks:List CluX) (lay:Nat) (rk rk':Nat→List Nat→Option Nat):Prop:=
 ∃ T,rk' = (Gt ((ks.filter (FO rs lay)).map (·.c)) rs.length (D4 rs Fs rk lay rs.length) (C9 ((ks.filter (FO rs lay)).map (·.c)) (D4 rs Fs rk lay rs.length)) (T+1)).rk ∧
  ∀ (i:Nat) (r:A9) (l:List Nat),rs[i]?=some r→l∈C7 r.n→¬ (Gt ((ks.filter (FO rs lay)).map (·.c)) rs.length (D4 rs Fs rk lay rs.length) (C9 ((ks.filter (FO rs lay)).map (·.c)) (D4 rs Fs rk lay rs.length)) T).x i l
inductive EL (rs:List A9) (Fs:Nat→List Nat→Prop) (ks:List CluX) (a:Nat) (rk:Nat→List Nat→Option Nat):Nat→(Nat→List Nat→Option Nat)→Prop
 | refl:EL rs Fs ks a rk a rk
 | step {b:Nat} {rk1 rk2:Nat→List Nat→Option Nat}:EL rs Fs ks a rk b rk1→Md rs Fs ks b rk1 rk2→EL rs Fs ks a rk (b+1) rk2
theorem MN {rs rs':List A9} (h:DM rs rs') (Fs:Nat→List Nat→Prop) (rks:Nat→List Nat→Option Nat) (lay j:Nat):D4 rs' Fs rks lay j=D4 rs Fs rks lay j:=by
 funext i
 unfold D4;rw [O9 h]
theorem bI {S:ST} {c:Nat} {R:List Nat→Prop} (h:GL S 0 c R) {l:List Nat} (hl:l∈C7 c):¬ R l:=fun hR=>by
 obtain ⟨σ,rfl⟩:=VS hl;have:=(h.2 σ).2 hR;rw [CF] at this;cases this
theorem Yu {S:ST} {rs:List A9} {Fs:Nat→List Nat→Prop} {rks:Nat→List Nat→Option Nat} (ha:ES S rs Fs rks):GH S ([]++F7 rs++Fc []):=fun f hm=>by
 simp only [Fc,BU,List.flatMap_nil,Be] at hm;obtain ⟨r,hr,hm⟩:=A2.1 hm;obtain ⟨i,hi,rfl⟩:=A3 hr;have hR:=ha i _ (AB hi);simp only [AJ,BA,or_false] at hm;rcases hm with rfl | rfl
 ·exact hR.fa.1
 ·exact hR.tu.1
theorem FW.none (w:World) (X:List Nat):FW w X 0 []:=⟨fun q=>by simp at q,fun q=>by simp at q,fun u hu=>by simp at hu,fun u hu=>by simp at hu,by simp⟩
def mB (bb gr cr:Nat) (B:SB) (rs:List A9) (x0 x1 x3:Value) (Fs:Nat→List Nat→Prop) (ks:List CluX) (a:Nat) (rks:Nat→List Nat→Option Nat) (w:World) (S:ST) (e:Ending) (w':World):Prop:=
 e=.returned (.tuple #[])∧∃ rs' S' rk',FZ w' bb B S' gr cr rs' x0 x1 x3∧DM rs rs'∧AA (ftp B gr rs) w w'∧S'.next≤S.next+200000000000000∧ES S' rs' Fs rk'∧EL rs Fs ks a rks rs.length rk'
theorem OL {w:World} {bb gr cr:Nat} {B:SB} {S:ST} {rs:List A9} {x0 x1:Value} {ka:Option Addr} {ks:List CluX} {kc:Nat} (h:FZ w bb B S gr cr rs x0 x1 (.slice ka ks.length kc)) {Fs:Nat→List Nat→Prop} {rks:Nat→List Nat→Option Nat} (ha:ES S rs Fs rks) (hks:Ia w (ftp B gr rs) ka ks) (hok:∀ k∈ks,Jl rs k.c∧0<k.c.lits.length) (h52:ks.length≤52) (h0:0<rs.length) (a:Nat) (han:a≤rs.length) (hl:S.next+250000000000000<Fq) :
  Calls prog 75 #[.pointer (some ⟨bb,0,none⟩),.int .i64 (a:Int)] w (mB bb gr cr B rs x0 x1 (.slice ka ks.length kc) Fs ks a rks w S):=by
 have h6:=h.few;have Hl:=AD hl;clear hl;go_in
 go_wp2_with fail
 go_loopw [1] (fun y wr=>∃ (j:Nat) (rs1:List A9) (S1:ST) (rk1:Nat→List Nat→Option Nat),y=.int .i64 j∧j≤rs.length∧FZ wr bb B S1 gr cr rs1 x0 x1 (.slice ka ks.length kc)∧DM rs rs1∧AA (ftp B gr rs) w wr∧Hid (S1.next≤S.next+33000000000000 * j)∧ES S1 rs1 Fs rk1∧EL rs Fs ks a rks j rk1) (fun y _=>((rs.length:Int) - intOf y).toNat)
 case atStart=>exact ⟨a,rs,S,rks,rfl,han,h,DM.refl rs,AA.refl _ _,AD (by omega),ha,.refl⟩
 case round=>
  obtain ⟨j,rs1,S1,rk1,rfl,hj,hb,lk,hk,hn,ha1,hst⟩:=hrel;have g2:=hb.cells.cell 2;simp at g2;rw [lk.1] at g2;by_cases hjl:j<rs.length
  ·have hjI:(j:Int)<rs.length:=(by omega);have hks1:=hks.keeps hk (fun j hj=>.inl hj);have hft:=lk.ftp (B:=B) (gr:=gr);have hly:=AD (Um hb ha1 (by rw [hft];exact hks1) (fun k hk=>⟨(hok k hk).1.like lk,(hok k hk).2⟩) h52 (by rw [lk.1];exact h0) j (by have:=Hl.out;have:=hn.out;omega));go_wp2_with fail
   refine hly.out.mono ?_;rintro e W5 ⟨rfl,rs5,S5,T,hb5,lk5,k5,n5,ha5,hx5⟩;rw [hft] at k5;rw [Lg lk,MN lk,lk.1] at ha5 hx5
   have hstep:Md rs Fs ks j rk1 _:=⟨T,rfl,fun i r l hi hl=>by
    obtain ⟨r',h1,h2⟩:=(lk.trans lk5).2 i r hi
    exact bI (hx5 i r' h1) (by rw [h2.n];exact hl)⟩
   have Hn5:=AD n5;clear n5 hly g2;go_wp2_with fail
   go_roundw
   ·exact ⟨j+1,rs5,S5,_,by simp,by omega,hb5,lk.trans lk5,hk.trans k5,AD (by have:=hn.out;have:=Hn5.out;push_cast;omega),ha5,hst.step hstep⟩
   ·simp only [intOf];omega
  ·have hjI:¬ (j:Int)<rs.length:=(by omega);have e:j=rs.length:=(by omega);subst e;have hsw:=L8 (uc:=0) (ua:=none) (us:=[]) (gu:=0) (X:=[]) hb (fun q=>by simp at q) (FW.none _ _) (fun u hu=>by simp at hu) (by simp) (fs:=[]) (by simp) (XH _) (by rw [lk.1];exact h0) (Yu ha1);have Hsw:=AD (show Calls prog 151 #[.pointer (some ⟨bb,0,none⟩),.slice none 0 0,.slice none 0 0] _ _ from hsw);clear hsw;go_wp2_with fail
   refine Hsw.out.mono ?_;rintro e W7 ⟨rfl,S7,hE7,k7,n7,hrep⟩;have Hrep:=AD hrep;clear hrep;go_wp2_with fail
   go_end0
   exact ⟨rfl,rs1,S7,rk1,hb.store k7 hE7,lk,hk.trans (k7.mono (fun q hq=>Ck hq)),by rw [n7];have:=hn.out;omega,ha1.swept (fun f c R hf hR=>Hrep.out f c R (by simp [hf]) hR),hst⟩
end
section
def C1 (cs:List Ae) (rk:Nat→List Nat→Option Nat) (i:Nat) (l:List Nat):Prop:=∃ c∈cs,c.head.rel=i∧HU c.head.terms (fun ν=>∀ a∈c.lits,Gb rk a ν) l
def fO (cs:List Ae):Prop:=∀ c∈cs,∀ a∈c.lits,a.2=true→∀ d∈cs,d.head.rel≠a.1.rel
def fM (cs:List Ae) (n:Nat):Prop:=∀ c∈cs,c.head.rel<n∧∀ a∈c.lits,a.1.rel<n
open Classical in
noncomputable def nv (cs:List Ae) (n:Nat) (rk0:Nat→List Nat→Option Nat):Nat→Nat→List Nat→Option Nat
 | 0=>rk0
 | t+1=>fun i l=>if i<n∧nv cs n rk0 t i l=none∧C1 cs (nv cs n rk0 t) i l then some (t+1) else nv cs n rk0 t i l
section
variable {cs:List Ae} {n:Nat} {rk0:Nat→List Nat→Option Nat}
theorem JQ {t i:Nat} {l:List Nat} (h:nv cs n rk0 t i l≠none):nv cs n rk0 (t+1) i l=nv cs n rk0 t i l:=by
 simp only [nv];rw [if_neg (fun q=>h q.2.1)]
theorem Lh {t i:Nat} {l:List Nat} (hi:i<n) (h:nv cs n rk0 t i l=none) (hd:C1 cs (nv cs n rk0 t) i l):nv cs n rk0 (t+1) i l=some (t+1):=by
 simp only [nv];rw [if_pos ⟨hi,h,hd⟩]
theorem Qw {t i:Nat} {l:List Nat} (hd:¬ C1 cs (nv cs n rk0 t) i l):nv cs n rk0 (t+1) i l=nv cs n rk0 t i l:=by
 simp only [nv];rw [if_neg (fun q=>hd q.2.2)]
theorem iM {t i:Nat} {l:List Nat} (hi:i<n):(nv cs n rk0 (t+1) i l).isSome=true↔(nv cs n rk0 t i l).isSome=true∨(C1 cs (nv cs n rk0 t) i l∧nv cs n rk0 t i l=none):=by
 by_cases h:nv cs n rk0 t i l=none
 ·by_cases hd:C1 cs (nv cs n rk0 t) i l
  ·rw [Lh hi h hd];simp [h,hd]
  ·rw [Qw hd];simp [h,hd]
 ·rw [JQ h];simp [h]
theorem MT {i:Nat} (h:∀ d∈cs,d.head.rel≠i) (rk:Nat→List Nat→Option Nat) (l:List Nat):¬ C1 cs rk i l:=fun ⟨d,hd,e,_⟩=>h d hd e
theorem Q7 (hneg:fO cs) (hrel:fM cs n) {c:Ae} (hc:c∈cs) {a:Bh×Bool} (ha:a∈c.lits) (t:Nat) (ν:List Nat):Gb (nv cs n rk0 (t+1)) a ν↔Gb (nv cs n rk0 t) a ν∨(C1 cs (nv cs n rk0 t) a.1.rel (a.1.terms.map (Jx ν))∧nv cs n rk0 t a.1.rel (a.1.terms.map (Jx ν))=none):=by
 unfold Gb;cases h2:a.2 with
 | true=>
  have hd:=MT (hneg c hc a ha h2) (nv cs n rk0 t) (a.1.terms.map (Jx ν));simp only [if_true];rw [Qw hd];simp [hd]
 | false=>
  rw [if_neg (by simp),if_neg (by simp)];exact iM ((hrel c hc).2 a ha)
theorem bF (hneg:fO cs) (hrel:fM cs n):∀ t,(Gt cs n rk0 (C9 cs rk0) t).rk=nv cs n rk0 t∧(∀ (p:Nat) (c:Ae),cs[p]?=some c→((Gt cs n rk0 (C9 cs rk0) t).hs p).length=c.lits.length∧∀ (k:Nat) (a:Bh×Bool),c.lits[k]?=some a→∃ H,((Gt cs n rk0 (C9 cs rk0) t).hs p)[k]?=some H∧∀ ν,H ν↔Gb (nv cs n rk0 t) a ν)∧∀ (i:Nat) (l:List Nat),i<n→((Gt cs n rk0 (C9 cs rk0) t).x i l↔C1 cs (nv cs n rk0 t) i l∧nv cs n rk0 t i l=none)
 | 0=>by
  have hh:∀ (p:Nat) (c:Ae),cs[p]?=some c→C9 cs rk0 p=c.lits.map (Gb rk0):=fun p c hc=>by unfold C9;rw [hc]
  refine ⟨rfl,fun p c hc=>⟨?_,fun k a ha=>⟨Gb rk0 a,?_,fun ν=>Iff.rfl⟩⟩,fun i l hi=>?_⟩
  ·show (C9 cs rk0 p).length=_;rw [hh p c hc];simp
  ·show (C9 cs rk0 p)[k]?=_;rw [hh p c hc,AX,ha];rfl
  ·show J0 (TD cs (C9 cs rk0)) rk0 n i l↔C1 cs rk0 i l∧rk0 i l=none;unfold J0;have e1:TD cs (C9 cs rk0) i l↔C1 cs rk0 i l:=by
    constructor
    ·rintro ⟨p,c,hc,hr,ν,h1,h2,h3⟩;refine ⟨c,AF hc,hr,ν,h1,fun a ha=>?_,h3⟩;obtain ⟨k,hk,rfl⟩:=A3 ha;exact h2 k _ hk (by rw [hh p c hc,AX,AB hk];rfl)
    ·rintro ⟨c,hc,hr,ν,h1,h2,h3⟩;obtain ⟨p,hp,rfl⟩:=A3 hc;have hc':=AB hp;refine ⟨p,_,hc',hr,ν,h1,fun k H hk hH=>?_,h3⟩;rw [hh p _ hc',AX] at hH;obtain ⟨a,ha,rfl⟩:=Cn.1 hH;exact h2 a (AF ha)
   rw [e1];constructor
   ·exact fun q=>⟨q.1,by have:=q.2 hi;cases h:rk0 i l <;> simp_all⟩
   ·exact fun q=>⟨q.1,fun _=>by rw [q.2];simp⟩
 | t+1=>by
  obtain ⟨h1,h2,h3⟩:=bF hneg hrel t;have er:(Gt cs n rk0 (C9 cs rk0) (t+1)).rk=nv cs n rk0 (t+1):=by
   show EN (Gt cs n rk0 (C9 cs rk0) t).rk (Gt cs n rk0 (C9 cs rk0) t).x (t+1) n=_;funext i l
   unfold EN;by_cases hi:i<n
   ·rw [if_pos hi];unfold Fw;by_cases hx:(Gt cs n rk0 (C9 cs rk0) t).x i l
    ·rw [if_pos hx];have:=(h3 i l hi).1 hx;rw [Lh hi this.2 this.1]
    ·rw [if_neg hx,h1];by_cases hn:nv cs n rk0 t i l=none
     ·rw [Qw (fun hd=>hx ((h3 i l hi).2 ⟨hd,hn⟩))]
     ·rw [JQ hn]
   ·rw [if_neg hi,h1];simp only [nv];rw [if_neg (fun q=>hi q.1)]
  have eh:∀ (p:Nat) (c:Ae),cs[p]?=some c→(Gt cs n rk0 (C9 cs rk0) (t+1)).hs p=Gk ((Gt cs n rk0 (C9 cs rk0) t).hs p) (c.lits.map (FP (Gt cs n rk0 (C9 cs rk0) t).x)) c.lits.length:=fun p c hc=>by
   show hsC cs _ _ p=_;unfold hsC;rw [hc]
  have hH:∀ (p:Nat) (c:Ae),cs[p]?=some c→∀ (k:Nat) (a:Bh×Bool),c.lits[k]?=some a→∃ H,(Gk ((Gt cs n rk0 (C9 cs rk0) t).hs p) (c.lits.map (FP (Gt cs n rk0 (C9 cs rk0) t).x)) c.lits.length)[k]?=some H∧∀ ν,H ν↔Gb (nv cs n rk0 (t+1)) a ν:=fun p c hc k a ha=>by
   obtain ⟨hl,hk⟩:=h2 p c hc;obtain ⟨H,e1,e2⟩:=hk k a ha;have hkl:=(AL.1 ha).1;have hm:=AF hc;have ham:=AF ha;refine ⟨lQ ((Gt cs n rk0 (C9 cs rk0) t).hs p) (c.lits.map (FP (Gt cs n rk0 (C9 cs rk0) t).x)) c.lits.length k,?_,fun ν=>?_⟩
   ·unfold Gk;rw [AX,Cu (by rw [hl];exact hkl)];rfl
   ·rw [Q7 hneg hrel hm ham,←h3 _ _ ((hrel c hm).2 a ham)];unfold lQ;constructor
    ·rintro (⟨G,g1,g2⟩ | ⟨_,C,g1,g2⟩)
     ·rw [e1] at g1;cases g1;exact .inl ((e2 ν).1 g2)
     ·rw [AX,ha] at g1;cases g1;exact .inr g2
    ·rintro (g | g)
     ·exact .inl ⟨H,e1,(e2 ν).2 g⟩
     ·exact .inr ⟨hkl,_,by rw [AX,ha];rfl,g⟩
  have hall:∀ (p:Nat) (c:Ae),cs[p]?=some c→∀ ν,NE (Gk ((Gt cs n rk0 (C9 cs rk0) t).hs p) (c.lits.map (FP (Gt cs n rk0 (C9 cs rk0) t).x)) c.lits.length) c.lits.length ν↔∀ a∈c.lits,Gb (nv cs n rk0 (t+1)) a ν:=fun p c hc ν=>by
   constructor
   ·intro q a ha;obtain ⟨k,hk,rfl⟩:=A3 ha;obtain ⟨H,e1,e2⟩:=hH p c hc k _ (AB hk);exact (e2 ν).1 (q k H hk e1)
   ·intro q k H hk hHk;obtain ⟨H',e1,e2⟩:=hH p c hc k _ (AB hk);rw [e1] at hHk;cases hHk;exact (e2 ν).2 (q _ (CQ hk))
  refine ⟨er,fun p c hc=>⟨?_,fun k a ha=>?_⟩,fun i l hi=>?_⟩
  ·rw [eh p c hc];unfold Gk;simp [(h2 p c hc).1]
  ·rw [eh p c hc];exact hH p c hc k a ha
  ·show J0 (aF cs (Gt cs n rk0 (C9 cs rk0) t).hs (Gt cs n rk0 (C9 cs rk0) t).x) (Gt cs n rk0 (C9 cs rk0) (t+1)).rk n i l↔_;rw [er];unfold J0;constructor
   ·rintro ⟨⟨p,c,k,a,hc,hr,_,ν,g1,g2,g3⟩,hn⟩;refine ⟨⟨c,AF hc,hr,ν,g1,(hall p c hc ν).1 g2.2,g3⟩,?_⟩;have:=hn hi;cases h:nv cs n rk0 (t+1) i l <;> simp_all
   ·rintro ⟨⟨c,hc,hr,ν,g1,g2,g3⟩,hn⟩;refine ⟨?_,fun _=>by rw [hn];simp⟩;obtain ⟨p,hp,rfl⟩:=A3 hc;have hc':=AB hp;by_cases hx:∃ (k:Nat) (a:Bh×Bool),(cs[p]).lits[k]?=some a∧FP (Gt cs n rk0 (C9 cs rk0) t).x a ν
    ·obtain ⟨k,a,ha,hx⟩:=hx;exact ⟨p,_,k,a,hc',hr,ha,ν,g1,⟨hx,(hall p _ hc' ν).2 g2⟩,g3⟩
    ·exfalso
     have hd:C1 cs (nv cs n rk0 t) i l:=⟨_,hc,hr,ν,g1,fun a ha=>by
      rcases (Q7 hneg hrel hc ha t ν).1 (g2 a ha) with q | q
      ·exact q
      ·obtain ⟨k,hk,e⟩:=A3 ha
       exact absurd ⟨k,a,by rw [AB hk,e],(h3 _ _ ((hrel _ hc).2 a ha)).2 q⟩ hx,g3⟩
     by_cases h0:nv cs n rk0 t i l=none
     ·rw [Lh hi h0 hd] at hn;cases hn
     ·rw [JQ h0] at hn;exact h0 hn
theorem KP {T:Nat} (h:∀ i l,i<n→¬ (C1 cs (nv cs n rk0 T) i l∧nv cs n rk0 T i l=none)):∀ t,nv cs n rk0 (T+t)=nv cs n rk0 T
 | 0=>rfl
 | t+1=>by
  have ih:=KP h t;funext i l
  show nv cs n rk0 ((T+t)+1) i l=_;simp only [nv];rw [ih,if_neg (fun q=>h i l q.1 ⟨q.2.2,q.2.1⟩)]
theorem UI {t i:Nat} {l:List Nat} {r:Nat} (h:nv cs n rk0 t i l=some r):∀ u,nv cs n rk0 (t+u) i l=some r
 | 0=>h
 | u+1=>by
  have ih:=UI h u;show nv cs n rk0 ((t+u)+1) i l=_;rw [JQ (by rw [ih];simp),ih]
theorem iN {t i:Nat} {l:List Nat} {r:Nat} (h:nv cs n rk0 t i l=some r):rk0 i l=some r∨(rk0 i l=none∧1≤r∧r≤t∧nv cs n rk0 (r - 1) i l=none∧C1 cs (nv cs n rk0 (r - 1)) i l):=by
 induction t with
 | zero=>exact .inl h
 | succ t ih=>
  by_cases h0:nv cs n rk0 t i l=none
  ·by_cases hd:i<n∧C1 cs (nv cs n rk0 t) i l
   ·rw [Lh hd.1 h0 hd.2] at h;cases h;refine .inr ⟨?_,by omega,AS _,h0,hd.2⟩;cases hz:rk0 i l with
    | none=>rfl
    | some q=>
     have:=UI (cs:=cs) (n:=n) (rk0:=rk0) (t:=0) (i:=i) (l:=l) hz t;rw [Ad,h0] at this;cases this
   ·simp only [nv] at h;rw [if_neg (fun q=>hd ⟨q.1,q.2.2⟩),h0] at h;cases h
  ·rw [JQ h0] at h;rcases ih h with q | ⟨q1,q2,q3,q4,q5⟩
   ·exact .inl q
   ·exact .inr ⟨q1,q2,by omega,q4,q5⟩
end
def vT (k:Nat):BR:=⟨true,(k:Int)⟩
def Ir (e p l:Nat):Ae:=⟨⟨p,[vT 0,vT 1]⟩,[(⟨e,[vT 0,vT 1]⟩,false)],l⟩
def Ic (e p l:Nat):Ae:=⟨⟨p,[vT 0,vT 1]⟩,[(⟨p,[vT 0,vT 2]⟩,false),(⟨e,[vT 2,vT 1]⟩,false)],l⟩
theorem least {P:Nat→Prop}:∀ {n:Nat},P n→∃ m,m≤n∧P m∧∀ k,k<m→¬ P k:=by
 intro n;induction n using Nat.strongRecOn with
 | ind n ih=>
  intro h;by_cases hk:∃ k,k<n∧P k
  ·obtain ⟨k,h1,h2⟩:=hk;obtain ⟨m,a,b,c⟩:=ih k h1 h2;exact ⟨m,by omega,b,c⟩
  ·exact ⟨n,AS _,h,fun k h1 h2=>hk ⟨k,h1,h2⟩⟩
theorem YG {a b c d:Nat} (ha:a<8) (hb:b<8) (hc:c<8) (hd:d<8):[a,b,c,d]∈C7 4:=by
 simp only [C7,A2,CH,AR,AG];exact ⟨a,ha,_,⟨b,hb,_,⟨c,hc,_,⟨d,hd,_,rfl,rfl⟩,rfl⟩,rfl⟩,rfl⟩
theorem bZ {ν:List Nat} (h:ν∈C7 4):∃ a b c d,ν=[a,b,c,d]∧a<8∧b<8∧c<8∧d<8:=by
 simp only [C7,A2,CH,AR,AG] at h;obtain ⟨a,ha,_,⟨b,hb,_,⟨c,hc,_,⟨d,hd,_,rfl,rfl⟩,rfl⟩,rfl⟩,rfl⟩:=h;exact ⟨a,b,c,d,rfl,ha,hb,hc,hd⟩
section
variable {e p l1 l2 n:Nat} {rk:Nat→List Nat→Option Nat}
theorem Sm {x y:Nat} (hx:x<8) (hy:y<8):C1 [Ir e p l1,Ic e p l2] rk p [x,y]↔(rk e [x,y]).isSome=true∨∃ z,z<8∧(rk p [x,z]).isSome=true∧(rk e [z,y]).isSome=true:=by
 constructor
 ·rintro ⟨c,hc,_,ν,hν,hl,ht⟩;obtain ⟨a,b,u,d,rfl,_,_,hu,_⟩:=bZ hν;simp only [AJ,BA,or_false] at hc;rcases hc with rfl | rfl
  ·have h1:=hl (⟨e,[vT 0,vT 1]⟩,false) (by simp [Ir]);simp [Ir,vT,Jx] at ht;obtain ⟨rfl,rfl⟩:=ht;simp [Gb,vT,Jx] at h1;exact .inl h1
  ·have h1:=hl (⟨p,[vT 0,vT 2]⟩,false) (by simp [Ic]);have h2:=hl (⟨e,[vT 2,vT 1]⟩,false) (by simp [Ic]);simp [Ic,vT,Jx] at ht;obtain ⟨rfl,rfl⟩:=ht;simp [Gb,vT,Jx] at h1 h2;exact .inr ⟨u,hu,h1,h2⟩
 ·rintro (h | ⟨z,hz,h1,h2⟩)
  ·refine ⟨Ir e p l1,by simp,rfl,[x,y,0,0],YG hx hy (by omega) (by omega),fun a ha=>?_,by simp [Ir,vT,Jx]⟩;simp only [Ir,AJ,BA,or_false] at ha;subst ha;simpa [Gb,vT,Jx] using h
  ·refine ⟨Ic e p l2,by simp,rfl,[x,y,z,0],YG hx hy hz (by omega),fun a ha=>?_,by simp [Ic,vT,Jx]⟩;simp only [Ic,AJ,BA,or_false] at ha;rcases ha with rfl | rfl
   ·simpa [Gb,vT,Jx] using h1
   ·simpa [Gb,vT,Jx] using h2
theorem RX (he:e≠p):∀ (t:Nat) (l:List Nat),nv [Ir e p l1,Ic e p l2] n rk t e l=rk e l
 | 0,_=>rfl
 | t+1,l=>by
  rw [Qw (MT (fun d hd=>?_) _ _),RX he t l];simp only [AJ,BA,or_false] at hd;rcases hd with rfl | rfl <;> exact fun q=>he q.symm
theorem Xb (he:e≠p) (hp:p<n) {E:Nat→Nat→Prop} (hE:∀ x y,x<8→y<8→((rk e [x,y]).isSome=true↔E x y)) (h8:∀ x y,E x y→x<8∧y<8) (h0:∀ l,rk p l=none):∀ (t:Nat) {x y:Nat} (_:x<8) (_:y<8) (r:Nat),nv [Ir e p l1,Ic e p l2] n rk t p [x,y]=some r↔r≤t∧Nu E 8 r x y∧∀ m,m<r→¬ Nu E 8 m x y
 | 0,x,y,_,_,r=>by
  show rk p [x,y]=some r↔_;rw [h0];constructor
  ·exact fun q=>nomatch q
  ·rintro ⟨h1,h2,_⟩;have:=h2.pos;omega
 | t+1,x,y,hx,hy,r=>by
  have ih:=fun {x y:Nat} (hx:x<8) (hy:y<8) (r:Nat)=>Xb he hp hE h8 h0 t hx hy r;have hA:∀ {x y:Nat},x<8→y<8→((nv [Ir e p l1,Ic e p l2] n rk t p [x,y]).isSome=true↔∃ q,q≤t∧Nu E 8 q x y):=fun {x y} hx hy=>by
   constructor
   ·intro h;obtain ⟨q,hq⟩:=Bl.1 h;exact ⟨q,((ih hx hy q).1 hq).1,((ih hx hy q).1 hq).2.1⟩
   ·rintro ⟨q,h1,h2⟩;obtain ⟨m,a,b,c⟩:=least (P:=fun q=>Nu E 8 q x y) h2;rw [(ih hx hy m).2 ⟨by omega,b,c⟩];rfl
  have hD:C1 [Ir e p l1,Ic e p l2] (nv [Ir e p l1,Ic e p l2] n rk t) p [x,y]↔∃ q,q≤t+1∧Nu E 8 q x y:=by
   rw [Sm hx hy,RX he,hE x y hx hy];constructor
   ·rintro (h | ⟨z,hz,h1,h2⟩)
    ·exact ⟨1,by omega,.one h⟩
    ·obtain ⟨q,a,b⟩:=(hA hx hz).1 h1;rw [RX he,hE z y hz hy] at h2;exact ⟨q+1,by omega,b.trans hz (.one h2)⟩
   ·rintro ⟨q,h1,h2⟩;cases q with
    | zero=>exact absurd h2.pos (by omega)
    | succ q=>
     by_cases hq:0<q
     ·obtain ⟨z,hz,a,b⟩:=h2.last hq;exact .inr ⟨z,hz,(hA hx hz).2 ⟨q,by omega,a⟩,by rw [RX he,hE z y hz hy];exact b⟩
     ·have:q=0:=(by omega);subst this;exact .inl (Nu.one_iff.1 h2)
  cases hn:nv [Ir e p l1,Ic e p l2] n rk t p [x,y] with
  | some q=>
   rw [JQ (by rw [hn];simp),hn];obtain ⟨a,b,c⟩:=(ih hx hy q).1 hn;constructor
   ·intro e;cases e;exact ⟨by omega,b,c⟩
   ·rintro ⟨_,b2,c2⟩;congr 1
    rcases Nat.lt_trichotomy q r with h | h | h
    ·exact absurd b (c2 q h)
    ·exact h
    ·exact absurd b2 (c r h)
  | none=>
   have hno:∀ q,q≤t→¬ Nu E 8 q x y:=fun q h1 h2=>by
    have:=(hA hx hy).2 ⟨q,h1,h2⟩;rw [hn] at this;cases this
   by_cases hd:C1 [Ir e p l1,Ic e p l2] (nv [Ir e p l1,Ic e p l2] n rk t) p [x,y]
   ·rw [Lh hp hn hd];obtain ⟨q,h1,h2⟩:=hD.1 hd;have hq:q=t+1:=by
     by_cases hq:q≤t
     ·exact absurd h2 (hno q hq)
     ·omega
    subst hq;constructor
    ·intro e;cases e;exact ⟨AS _,h2,fun m hm=>hno m (by omega)⟩
    ·rintro ⟨a,b,c⟩;congr 1
     by_cases hr:r≤t
     ·exact absurd b (hno r hr)
     ·omega
   ·rw [Qw hd,hn];constructor
    ·exact fun q=>nomatch q
    ·rintro ⟨a,b,_⟩;exact absurd (hD.2 ⟨r,a,b⟩) hd
end
end
section
open Go.RowKit
def J2 (l:List Nat):List Int:=l.map fun d:Nat=>(d:Int)
theorem RM:∀ (l:List Nat) (d p:Nat),asnF (l++[d]) p=asnF l p+r3 d * 2 ^ (3 * (p+l.length))
 | [],d,p=>by simp [asnF]
 | c :: l,d,p=>by
  have:=RM l d (p+1);simp only [A6,asnF,this,AV];rw [show p+1+l.length=p+(l.length+1) by omega];omega
theorem Pr:∀ (l:List Nat) (p:Nat),asnF l p+2 ^ (3 * p)≤2 ^ (3 * (p+l.length))
 | [],p=>by simp [asnF]
 | d :: l,p=>by
  have ih:=Pr l (p+1);have h1:=bO d;have e:2 ^ (3 * (p+1))=8 * 2 ^ (3 * p):=by rw [show 3 * (p+1)=3 * p+3 by omega,Nat.pow_add];omega
  have h2:r3 d * 2 ^ (3 * p)≤7 * 2 ^ (3 * p):=Nat.mul_le_mul_right _ (by omega);simp only [asnF,AV];rw [show p+(l.length+1)=p+1+l.length by omega];omega
theorem iF:∀ d,d<8→∀ i,i<3→r3 d % 2 ^ (i+1)=r3 d % 2 ^ i+d / 2 ^ (2 - i) % 2 * 2 ^ i:=by decide
theorem iI {a:Nat} (h:a<4096):bits BinOp.or IntKind.i64 (a:Int) 0=(a:Int):=by
 have e2:=(bits_nat .i64 62 (by decide) (fun n a b=>by rw [IntKind.wrap_i64];omega) a 0 (by omega) (by omega)).2;have e3:(((0:Nat):Int))=0:=rfl;rw [e3] at e2;rw [e2,Nat.or_zero]
theorem nF {A d k i b:Nat} (hd:d<8) (hk:k<3) (hi:i<3) (hA:A<2 ^ (3 * k)) (hb:d / 2 ^ (2 - i) % 2=b):bits BinOp.or IntKind.i64 ((A+r3 d % 2 ^ i * 2 ^ (3 * k):Nat):Int) (IntKind.i64.wrap ((b:Int) * 2 ^ (3 * (k:Int)+(i:Int)).toNat))=((A+r3 d % 2 ^ (i+1) * 2 ^ (3 * k):Nat):Int):=by
 have hv:(3 * (k:Int)+(i:Int)).toNat=3 * k+i:=by omega
 have hb2:b<2:=by omega
 have hr:r3 d % 2 ^ i<2 ^ i:=Nat.mod_lt _ (Nat.two_pow_pos i);have hp:2 ^ (3 * k+i)=2 ^ i * 2 ^ (3 * k):=by rw [Nat.pow_add,DQ]
 have h1:(r3 d % 2 ^ i+1) * 2 ^ (3 * k)≤2 ^ i * 2 ^ (3 * k):=Nat.mul_le_mul_right _ hr;rw [D0,Nat.one_mul] at h1;have hC:A+r3 d % 2 ^ i * 2 ^ (3 * k)<2 ^ (3 * k+i):=by omega
 have hv9:3 * k+i<9:=by omega
 have h512:2 ^ (3 * k+i)≤2 ^ 9:=Ch (by decide) (by omega);rw [hv,iF d hd i hi,hb,D0,←Nat.add_assoc,Nat.mul_assoc b,←hp];generalize A+r3 d % 2 ^ i * 2 ^ (3 * k)=C at *;have hcase:b=0∨b=1:=by omega
 rcases hcase with rfl | rfl
 ·have:IntKind.i64.wrap (((0:Nat):Int) * 2 ^ (3 * k+i))=0:=by simp [IntKind.wrap_i64]
  rw [this,D6,CB];exact iI (by omega)
 ·have e:((1:Nat):Int) * 2 ^ (3 * k+i)=((2 ^ (3 * k+i):Nat):Int):=by push_cast;omega
  have:IntKind.i64.wrap (((1:Nat):Int) * 2 ^ (3 * k+i))=((2 ^ (3 * k+i):Nat):Int):=by rw [e,IntKind.wrap_i64];omega
  rw [this,Nat.one_mul];exact SC hC (by omega)
theorem lA {d m:Nat} (hd:d<8):bits BinOp.and IntKind.i64 ((d:Int) / 2 ^ m) 1=((d / 2 ^ m % 2:Nat):Int):=by
 have h0:(d:Int) / 2 ^ m=((d / 2 ^ m:Nat):Int):=by push_cast;rfl
 have h1:d / 2 ^ m≤d:=Nat.div_le_self _ _;rw [h0];generalize d / 2 ^ m=q at *;rw [TH _ (by omega) (by omega)];omega
theorem MZ {w:World} {g cap:Nat} {l:List Nat} (hrow:Bt w g (J2 l)) (hl:l.length≤3) (hd:∀ x∈l,x<8):Calls prog 86 #[.slice (some ⟨g,0,none⟩) l.length cap] w fun e w'=>e=.returned (.int .i64 (asn l:Nat))∧AA [] w w':=by
 go_in
 go_wp2_with fail
 go_loopw [3,9] (fun x y wr=>∃ (k:Nat),y=.int .i64 k∧k≤l.length∧x=.int .i64 (asn (l.take k):Nat)∧AA [] w wr) (fun _ y _=>((l.length:Int) - intOf y).toNat)
 case atStart=>exact ⟨0,rfl,by omega,by simp [asn,asnF],AA.refl _ _⟩
 case round=>
  obtain ⟨k,rfl,hk,rfl,hkp⟩:=hrel;by_cases hkl:k<l.length
  ·have hkI:(k:Int)<l.length:=(by omega);obtain ⟨d,hdk⟩:∃ d,l[k]?=some d:=⟨_,AB hkl⟩;have hd8:=hd d (AF hdk);have c0:=(hrow.keepsE hkp).cell (i:=k) (x:=(d:Int)) (by simp [J2,hdk]);have hfew:=Pr (l.take k) 0;have hnext:asn (l.take (k+1))=asn (l.take k)+r3 d * 2 ^ (3 * k):=by
    unfold asn;rw [An,hdk,Option.toList_some,RM,A5,Ad,Cv (by omega)]
   have hA0:asn (l.take k)<2 ^ (3 * k):=by
    rw [A5,Ad,Cv (by omega)] at hfew;unfold asn;have:=Nat.two_pow_pos (3 * 0);omega
   have Hnext:=AD hnext;generalize hA:asn (l.take k)=A at *;have HA0:=AD hA0;have hk3:k<3:=(by omega);rename World=>wo;clear hnext hfew hA0;go_wp2_with fail
   clear c0;go_loopw [3,14] (fun x y wr=>∃ (i:Nat),y=.int .i64 i∧i≤3∧x=.int .i64 (A+r3 d % 2 ^ i * 2 ^ (3 * k):Nat)∧AA [] wo wr) (fun _ y _=>((3:Int) - intOf y).toNat)
   case atStart=>exact ⟨0,rfl,by omega,by simp [Nat.mod_one],AA.refl _ _⟩
   case round=>
    obtain ⟨i,rfl,hi,rfl,hkp2⟩:=hrel;by_cases hil:i<3
    ·have hiI:(i:Int)<3:=(by omega);obtain ⟨m,hm⟩:∃ m:Nat,2 - i=m:=⟨_,rfl⟩;have hmI:IntKind.i64.wrap (2 - (i:Int))=(m:Int):=by rw [IntKind.wrap_i64];omega
     have hvar:=AD (fun (W:World)=>Ei W k i (by omega) (by omega));have hm3:m<3:=(by omega);have hdI:(d:Int)<8:=(by omega);have hbq:=lA (d:=d) (m:=m) hd8;have hor:=nF (A:=A) (d:=d) (k:=k) (i:=i) (b:=d / 2 ^ m % 2) hd8 hk3 hil HA0.out (by rw [hm]);generalize d / 2 ^ m % 2=b at *;have Hor:=AD hor;generalize hC:A+r3 d % 2 ^ i * 2 ^ (3 * k)=C at *;generalize hD:A+r3 d % 2 ^ (i+1) * 2 ^ (3 * k)=D at *;have HD:=AD hD;clear hm hA hC hdk hor hD;go_wp2_with fail
     go_region_held3 (fun _=>True) (first | exact trivial)
      (first
      | (go_at_call 144
         refine (hvar.out _).mono ?_
         rintro e W5 ⟨rfl,rfl⟩))
     all_goals
      rw [Hor.out];go_wp2_with fail
      go_roundw
      ·exact ⟨i+1,by simp,by omega,by rw [HD.out],hkp2.trans (AA.drew [] _)⟩
      ·simp only [intOf];omega
    ·have hiI:¬ (i:Int)<3:=(by omega);have e:i=3:=(by omega);subst e;have e8:r3 d % 2 ^ 3=r3 d:=Ci (bO d);rw [e8];generalize hD:A+r3 d * 2 ^ (3 * k)=D at *;clear e8 hD;go_wp2_with fail
     go_roundw
     ·exact ⟨k+1,by simp,by omega,by rw [Hnext.out],hkp.trans hkp2⟩
     ·simp only [intOf];omega
  ·have hkI:¬ (k:Int)<l.length:=(by omega);have e:k=l.length:=(by omega);subst e;rw [Bm];go_wp2_with fail
   go_ret
   exact ⟨rfl,hkp⟩
section
variable {w:World} {bb gr cr:Nat} {B:SB} {S:ST} {rs:List A9} {x0 x1 x3:Value}
theorem mZ (h:FZ w bb B S gr cr rs x0 x1 x3) {i:Nat} {r:A9} (hi:rs[i]?=some r):Calls prog 53 #[.pointer (some ⟨bb,0,none⟩),.int .i64 (i:Int)] w fun e w'=>e=.returned (.int .i64 (r.layer:Int))∧w' = w:=by
 obtain ⟨cs,hc,hcs⟩:=h.rel;have hil:(i:Int)<rs.length:=by have:=(AL.1 hi).1;omega
 have g1:w.cell? ⟨gr,i * 5+1,none⟩=some (.int .i64 (r.layer:Int)):=by rw [hc.cell];exact (hcs i r hi).c1
 have g2:=h.cells.cell 2;simp at g2;clear hi;go_in
 go_wp2
 go_ret
 exact ⟨rfl,rfl⟩
theorem St (h:FZ w bb B S gr cr rs x0 x1 x3) {i:Nat} {r:A9} (hi:rs[i]?=some r):Calls prog 83 #[.pointer (some ⟨bb,0,none⟩),.int .i64 (i:Int)] w fun e w'=>e=.returned (.int .i64 (r.n:Int))∧w' = w:=by
 obtain ⟨cs,hc,hcs⟩:=h.rel;have hil:(i:Int)<rs.length:=by have:=(AL.1 hi).1;omega
 have g1:w.cell? ⟨gr,i * 5,none⟩=some (.slice r.sa r.n r.cc):=by rw [hc.cell];exact (hcs i r hi).c0
 have g2:=h.cells.cell 2;simp at g2;clear hi;go_in
 go_wp2
 go_ret
 exact ⟨rfl,rfl⟩
def AloTo (B:SB) (w:World) (S:ST) (l:List Nat) (e:Ending) (w':World):Prop:=∃ f S',e=.returned (.int .i64 f)∧C3 w' B S'∧AA B.own w w'∧EH S S'∧S'.next≤S.next+122868∧GL S' f l.length (fun t=>t=l)
theorem mJ {σ:Int→Bool} {l:List Nat}:(∀ (p d:Nat),p<l.length→l[p]?=some d→Fd σ p=d)↔EC σ 0 l.length=l:=by
 constructor
 ·intro h;apply Bd;intro p;by_cases hp:p<l.length
  ·rw [Ko σ _ 0 p hp,Ad,AB hp,h p _ hp (AB hp)]
  ·rw [Ac (by rw [OS];omega),Ac (by omega)]
 ·intro h p d hp hd;have:=Ko σ l.length 0 p hp;rw [h,hd,Ad] at this;exact (As this).symm
theorem Nt (h:FZ w bb B S gr cr rs x0 x1 x3) {g cap:Nat} {l:List Nat} (hrow:Bt w g (J2 l)) (hg:g∉B.own) (hl:l.length≤3) (hd:∀ x∈l,x<8) (hn:S.next+200000<Fq) :
  Calls prog 89 #[.pointer (some ⟨bb,0,none⟩),.slice (some ⟨g,0,none⟩) l.length cap] w (AloTo B w S l):=by
 have Hl:=AD hn;clear hn;go_in
 go_wp2_with fail
 go_loopw [5,10] (fun x y wr=>∃ (j:Nat) (q:Int) (S1:ST),x=.int .i64 q∧y=.int .i64 j∧j≤l.length∧C3 wr B S1∧AA B.own w wr∧EH S S1∧Hid (S1.next≤S.next+40956 * j)∧Fg S1 q (fun σ=>∀ (p d:Nat),p<j→l[p]?=some d→Fd σ p=d)) (fun _ y _=>((l.length:Int) - intOf y).toNat)
 case atStart=>exact ⟨0,1,S,rfl,rfl,by omega,h.eng,AA.refl _ _,EH.refl S,AD (by omega),G8 S,fun σ=>by simp [Da]⟩
 case round=>
  obtain ⟨j,q,S1,rfl,rfl,hj,hE,hk,hx,hn,hq⟩:=hrel;by_cases hjl:j<l.length
  ·have hjI:(j:Int)<l.length:=(by omega);obtain ⟨d,hdj⟩:∃ d,l[j]?=some d:=⟨_,AB hjl⟩;have hd8:=hd d (AF hdj);have c0:=(hrow.keepsE hk hg).cell (i:=j) (x:=(d:Int)) (by simp [J2,hdj]);have hb:=(h.store hk hE).bs;have g4:=hb.cell;have heq:=AD (fun (W:World) (k:AA [] wr W)=>Ke (hE.keeps0 k) (hb.keeps k) j (by omega) ⟨false,(d:Int)⟩ ⟨by show (0:Int)≤d;omega,by show (d:Int)<8;omega,fun q=>by simp at q⟩ (by have:=Hl.out;have:=hn.out;omega));have h7:=AD (fun (W7:World) (k:AA B.own wr.drew W7)=>((hb.keeps (AA.drew [] wr)).own k).cell);have Hdj:=AD hdj;clear hdj;go_wp2_with fail
   go_region_held3 (fun w'=>w'.cell? ⟨bb,4,none⟩=some (.pointer (some ⟨B.b,0,none⟩))) (first | exact g4 | exact h7.out _ (k5.trans k6) | exact h7.out _ k5)
    (first
    | (go_at_call 149
       refine (heq.out _ (AA.drew [] _)).mono ?_
       rintro e W5 ⟨t,S5,rfl,hE5,k5,x5,n5,hr5⟩)
    | (go_at_call 148
       refine (YF hE5 (f:=q) (g:=t) (hq.ext x5 hE.wf hE5.wf) hr5 (by have:=Hl.out;have:=hn.out;omega)).mono ?_
       rintro e W6 ⟨t6,S6,rfl,hE6,k6,x6,n6,hr6⟩))
   all_goals
    have Hn6:=AD (show S6.next≤S1.next+40956 by omega)
    have hr7:Fg S6 t6 (fun σ=>∀ (p d:Nat),p<j+1→l[p]?=some d→Fd σ p=d):=⟨hr6.1,fun σ=>by
     rw [hr6.2];constructor
     ·rintro ⟨h1,h2⟩ p d' hp hd';by_cases e:p<j
      ·exact h1 p d' e hd'
      ·have e2:p=j:=(by omega);subst e2;rw [Hdj.out] at hd';cases hd';simpa [Jz] using h2
     ·intro hh
      exact ⟨fun p d' hp hd'=>hh p d' (by omega) hd',by have:=hh j d (by omega) Hdj.out;simpa [Jz] using this⟩⟩
    have Hr7:=AD hr7;have kF:AA B.own w W6:=(hk.trans ((AA.drew [] wr).mono (by simp))).trans (k5.trans k6);clear heq h7 g4 c0 n5 n6 hr6 hr7;go_wp2_with fail
    go_roundw
    ·exact ⟨j+1,t6,S6,rfl,by simp,by omega,hE6,kF,hx.trans (x5.trans x6),AD (by have:=hn.out;have:=Hn6.out;push_cast;omega),Hr7.out⟩
    ·simp only [intOf];omega
  ·have hjI:¬ (j:Int)<l.length:=(by omega);have e:j=l.length:=(by omega);subst e;have Hq:=AD hq;clear hq;go_wp2_with fail
   go_ret
   exact ⟨q,S1,rfl,hE,hk,hx,by have:=hn.out;omega,Hq.out.1,fun σ=>by rw [Hq.out.2];exact mJ⟩
end
section
variable {w:World} {bb gr cr:Nat} {B:SB} {S:ST} {rs:List A9} {x0 x1 x3:Value}
theorem KI {i:Nat} {r:A9} (hi:rs[i]?=some r) (f:Int):(rs.set i { r with fa:=f }).map (·.rm)=rs.map (·.rm):=by
 apply Bd;intro p;rw [AX,AX,Av];by_cases e:i=p
 ·subst e;rw [if_pos rfl,if_pos (AL.1 hi).1,hi];rfl
 ·rw [if_neg e]
theorem Ym {i:Nat} {r:A9} (hi:rs[i]?=some r) (f:Int):∀ q∈rs.set i { r with fa:=f },∃ q'∈rs,q.rm=q'.rm∧q.L=q'.L∧q.n=q'.n:=fun q hq=>by
 obtain ⟨p,hp,rfl⟩:=A3 hq;rw [List.getElem_set];split
 ·exact ⟨r,AF hi,rfl,rfl,rfl⟩
 ·exact ⟨_,CQ _,rfl,rfl,rfl⟩
theorem FZ.setFa (h:FZ w bb B S gr cr rs x0 x1 x3) {i:Nat} {r:A9} (hi:rs[i]?=some r) (f:Int):FZ (w.setCell ⟨gr,i * 5+2,none⟩ (.int .i64 f)) bb B S gr cr (rs.set i { r with fa:=f }) x0 x1 x3:=by
 have k:=AA.setCell w ⟨gr,i * 5+2,none⟩ (.int .i64 f);obtain ⟨cs,hc,hcs⟩:=h.rel;have hm:=Ym hi f;refine ⟨by rw [Ay];exact h.cells.keeps k (by simpa using h.bbgr),h.eng.keeps k (fun z hz hm=>h.grB (by simp only [AG] at hm;rw [←hm];exact hz)),⟨_,hc.setCell (i * 5+2) (.int .i64 f),P0.set hcs ((hcs i r hi).setFa f) (fun j q hj hq=>hq.other (by omega))⟩,fun q hq=>?_,h.bbB,h.grB,fun q hq=>?_,h.bbgr,fun q hq=>?_,fun q hq=>?_,by rw [KI hi];exact h.nodup,by rw [Ay];exact h.few,fun q hq=>?_⟩;all_goals obtain ⟨q',hq',e1,e2,e3⟩:=hm q hq
 ·rw [e1,e2];exact (h.maps q' hq').kept k (by simpa using fun e=>h.grrm q' hq' e.symm)
 ·rw [e1];exact h.rmB q' hq'
 ·rw [e1];exact h.bbrm q' hq'
 ·rw [e1];exact h.grrm q' hq'
 ·rw [e3];exact h.cols q' hq'
theorem Jl.setFa {c:Ae} (h:Jl rs c) {i:Nat} {r:A9} (hi:rs[i]?=some r) (f:Int):Jl (rs.set i { r with fa:=f }) c:=by
 have at_:∀ a,TP rs a→TP (rs.set i { r with fa:=f }) a:=fun a ha=>by
  obtain ⟨q,h1,h2,h3⟩:=ha.rel;refine ⟨?_,ha.tms⟩;rw [Av];by_cases e:i=a.rel
  ·rw [if_pos e,if_pos (AL.1 hi).1];rw [←e,hi] at h1;cases h1;exact ⟨_,rfl,h2,h3⟩
  ·rw [if_neg e];exact ⟨q,h1,h2,h3⟩
 exact ⟨at_ _ h.head,fun l hl=>at_ _ (h.lits l hl),h.few⟩
def Xc (Fs:Nat→List Nat→Prop) (i:Nat) (F:List Nat→Prop):Nat→List Nat→Prop:=fun j=>if j=i then F else Fs j
theorem ES.setFa {Fs:Nat→List Nat→Prop} {rks:Nat→List Nat→Option Nat} (h:ES S rs Fs rks) {i:Nat} {r:A9} (hi:rs[i]?=some r) {f:Int} {F:List Nat→Prop} (hf:GL S f r.n F):ES S (rs.set i { r with fa:=f }) (Xc Fs i F) rks:=fun j q hj=>by
 rw [Av] at hj;unfold Xc;by_cases e:i=j
 ·subst e;rw [if_pos rfl,if_pos (AL.1 hi).1] at hj;cases hj;rw [if_pos rfl];exact ⟨hf,(h i r hi).tu,(h i r hi).ranks⟩
 ·rw [if_neg e] at hj;rw [if_neg (fun q=>e q.symm)];exact h j q hj
end
theorem NT {w:World} {bb gr cr:Nat} {B:SB} {S:ST} {rs:List A9} {x0 x1:Value} {ka:Option Addr} {ks:List CluX} {kc:Nat} (h:FZ w bb B S gr cr rs x0 x1 (.slice ka ks.length kc)) {Fs:Nat→List Nat→Prop} {rks:Nat→List Nat→Option Nat} (ha:ES S rs Fs rks) (hks:Ia w (ftp B gr rs) ka ks) (hok:∀ k∈ks,Jl rs k.c∧0<k.c.lits.length) (h52:ks.length≤52) {i:Nat} {r:A9} (hi:rs[i]?=some r) (hlay:r.layer≤rs.length) {f:Int} {F:List Nat→Prop} (hf:GL S f r.n F) (hl:S.next+250000000000000<Fq) :
  Calls prog 87 #[.pointer (some ⟨bb,0,none⟩),.int .i64 (i:Int),.int .i64 f] w (mB bb gr cr B (rs.set i { r with fa:=f }) x0 x1 (.slice ka ks.length kc) (Xc Fs i F) ks r.layer rks w S):=by
 have hil:=(AL.1 hi).1;have hiI:(i:Int)<rs.length:=by omega
 have hb1:=h.setFa hi f;have kS:=AA.setCell w ⟨gr,i * 5+2,none⟩ (.int .i64 f);have hft:ftp B gr (rs.set i { r with fa:=f })=ftp B gr rs:=by unfold ftp;rw [KI hi]
 have hwk:=AD (OL hb1 (ha.setFa hi hf) (by rw [hft];exact hks.keeps kS (fun j hj=>.inl (by simp only [AG] at hj;rw [hj];simp [ftp]))) (fun k hk=>⟨(hok k hk).1.setFa hi f,(hok k hk).2⟩) h52 (by rw [Ay];omega) r.layer (by rw [Ay];exact hlay) hl);obtain ⟨cs,hc,hcs⟩:=h.rel;have g2:=h.cells.cell 2;simp at g2;have q2:w.cell? ⟨gr,i * 5+2,none⟩=some (.int .i64 r.fa):=by rw [hc.cell];exact (hcs i r hi).c2
 have z2:=hc.frozen (i * 5+2);have q1:(w.setCell ⟨gr,i * 5+2,none⟩ (.int .i64 f)).cell? ⟨gr,i * 5+1,none⟩=some (.int .i64 (r.layer:Int)):=by
  rw [(hc.setCell (i * 5+2) (.int .i64 f)).cell];exact ((hcs i r hi).setFa f).c1
 have Hft:=AD hft;clear hi hil hft hl;go_in
 go_wp2_with fail
 refine hwk.out.mono ?_;rintro e W5 ⟨rfl,rs',S',rk',h1,h2,h3,h4,h5,h6⟩;clear hwk q1 q2 z2 g2;go_wp2_with fail
 go_end0
 exact ⟨rfl,rs',S',rk',h1,h2,(kS.mono (fun j hj=>by simp only [AG] at hj;rw [hj];simp [ftp])).trans h3,h4,h5,h6⟩
def ba (l:List UInt8):ByteArray:=⟨⟨l⟩⟩
theorem D5 (l:List UInt8):(ba l).size=l.length:=rfl
theorem Po (l:List UInt8) (i:Nat):Dw (ba l) i=((l[i]?.map (fun b=>(b.toNat:Int))).getD 0):=by
 unfold Dw;by_cases h:i<l.length
 ·rw [dif_pos (show i<(ba l).size from h),AB h];rfl
 ·rw [dif_neg (show ¬ i<(ba l).size from h),Ac (by omega)];rfl
theorem Cm (c:UInt8) (l:List UInt8):Dw (ba (c :: l)) 0=(c.toNat:Int):=by rw [Po];rfl
theorem Ls {s:ByteArray} {l:List UInt8} (h:s.data.toList=l):s=ba l:=by
 cases s with
 | mk d=>cases d with | mk x=>subst h;rfl
theorem Pn (p r:List UInt8):(ba (p++r)).extract 0 p.length=ba p:=by
 apply Ls;rw [DS,Dh];simp [ba,List.extract_eq_take_drop]
theorem TE (p r:List UInt8):(ba (p++r)).extract p.length (ba (p++r)).size=ba r:=by
 apply Ls;rw [DS,Dh,D5];simp [ba,List.extract_eq_take_drop]
theorem MA {q:Int→Bool}:∀ (p r:List UInt8) (i k:Nat) (s:ByteArray),(∀ j:Nat,Dw s (i+j)=Dw (ba (p++r)) j)→(∀ b∈p,q (b.toNat:Int)=true)→(q (Dw (ba r) 0)=false∨k=p.length)→p.length≤k→DG q s i k=i+p.length
 | [],r,i,k,s,hs,_,hr,_=>by
  cases k with
  | zero=>rfl
  | succ k=>
   rcases hr with hr | hr
   ·have h0:=hs 0;rw [CB] at h0;rw [DG,h0,BU,hr];rfl
   ·simp at hr
 | b :: p,r,i,k,s,hs,hp,hr,hk=>by
  cases k with
  | zero=>simp at hk
  | succ k=>
   have h0:=hs 0;rw [CB] at h0;rw [DG,h0,A6,Cm,hp b (by simp),if_pos rfl,MA p r (i+1) k s (fun j=>?_) (fun c hc=>hp c (by simp [hc])) (hr.imp id (fun e=>by simpa using e)) (by simpa using hk)]
   ·simp;omega
   ·rw [show i+1+j=i+(j+1) by omega,hs (j+1),Po,Po];simp
theorem JJ {q:Int→Bool} (p r:List UInt8) (hp:∀ b∈p,q (b.toNat:Int)=true) (hr:q (Dw (ba r) 0)=false∨r=[]):B4 q (ba (p++r))=p.length:=by
 unfold B4;rw [MA p r 0 (ba (p++r)).size (ba (p++r)) (fun j=>by rw [Ad]) hp (hr.imp id (fun e=>by rw [e,D5];simp)) (by rw [D5];simp),Ad]
def Cy (g:Sg):List UInt8:=(BF g).data.toList
theorem eY (g:Sg):ba (Cy g)=BF g:=(Ls rfl).symm
def cI (b:UInt8):Int:=(b.toNat:Int)
def IF:Sg→Bool
 | .name s=>match s.data.toList with
  | []=>false
  | b :: l=>FE (cI b) && (b :: l).all (fun c=>DK (cI c)) && decide (l.length<6) && !((b :: l) == [100,111,109]) && !((b :: l) == [114,101,108])
 | .var s=>match s.data.toList with
  | [b]=>FF (cI b)
  | [b,c]=>FF (cI b) && CW (cI c)
  | _=>false
 | .int s=>decide (s.data.toList≠[]) && s.data.toList.all (fun c=>CW (cI c)) && decide (s.data.toList.length≤2)
 | .fin=>false
 | _=>true
def MC:Sg→Int→Bool
 | .name _,x=>!DK x
 | .dom,x=>!DK x
 | .rel,x=>!DK x
 | .int _,x=>!CW x
 | .var _,x=>!CW x
 | _,_=>true
theorem NC {b:UInt8} {l r:List UInt8} (h1:FE (cI b)=true) (h2:∀ c∈b :: l,DK (cI c)=true) (h3:l.length<6) (h4:DK (Dw (ba r) 0)=false∨r=[]):I8 (ba ((b :: l)++r))=some (Jn (ba (b :: l)),(b :: l).length):=by
 unfold I8;have e:=JJ (q:=DK) (b :: l) r h2 h4;rw [e,if_pos (by rw [A6,Cm];exact h1),if_pos (by simp;omega),Pn]
theorem Vf {l:List UInt8} (h1:(l == [100,111,109])=false) (h2:(l == [114,101,108])=false):Jn (ba l)=.name (ba l):=by
 unfold Jn;rw [show (ba l).toList=l from G9 l,h1,h2];rfl
theorem eK {g:Sg} {r:List UInt8} (hg:IF g=true) (hr:MC g (Dw (ba r) 0)=true∨r=[]):I8 (ba (Cy g++r))=some (g,(Cy g).length):=by
 have dig_no:∀ {x:Int},CW x=true→FE x=false∧FF x=false:=fun {x} h=>by
  simp only [CW,Ao,decide_eq_true_eq] at h;simp [FF,FE];omega
 cases g with
 | dom=>
  have:=NC (b:=100) (l:=[111,109]) (r:=r) (by decide) (by decide) (by decide) (hr.imp (fun h=>by simpa [MC] using h) id);rw [show Jn (ba [100,111,109])=.dom by unfold Jn;rw [show (ba [100,111,109]).toList=[100,111,109] from G9 _];rfl] at this;exact this
 | rel=>
  have:=NC (b:=114) (l:=[101,108]) (r:=r) (by decide) (by decide) (by decide) (hr.imp (fun h=>by simpa [MC] using h) id);rw [show Jn (ba [114,101,108])=.rel by unfold Jn;rw [show (ba [114,101,108]).toList=[114,101,108] from G9 _];rfl] at this;exact this
 | name s=>
  cases s with
  | mk d=>cases d with | mk l=>
   cases l with
   | nil=>simp [IF] at hg
   | cons b l=>
    simp only [IF,Ao,List.all_eq_true,decide_eq_true_eq,Ct] at hg;obtain ⟨⟨⟨⟨h1,h2⟩,h3⟩,h4⟩,h5⟩:=hg;have:=NC (r:=r) h1 h2 h3 (hr.imp (fun h=>by simpa [MC] using h) id);rw [Vf h4 h5] at this;exact this
 | var s=>
  cases s with
  | mk d=>cases d with | mk l=>
   have cap_no:∀ {x:Int},FF x=true→FE x=false:=fun {x} h=>by
    simp only [FF,Ao,decide_eq_true_eq] at h;simp [FE];omega
   match l,hg with
   | [b],hg=>
    have hb:FF (cI b)=true:=hg;have h0:Dw (ba (Cy (.var ⟨⟨[b]⟩⟩)++r)) 0=cI b:=Cm b r;have hn:B4 CW ((ba (Cy (.var ⟨⟨[b]⟩⟩)++r)).extract 1 (min 2 (ba (Cy (.var ⟨⟨[b]⟩⟩)++r)).size))=0:=by
     cases r with
     | nil=>rfl
     | cons c r=>
      have he:(ba (Cy (.var ⟨⟨[b]⟩⟩)++c :: r)).extract 1 (min 2 (ba (Cy (.var ⟨⟨[b]⟩⟩)++c :: r)).size)=ba [c]:=by
       apply Ls;rw [DS,Dh,D5];have:min 2 (Cy (.var ⟨⟨[b]⟩⟩)++c :: r).length=2:=(by simp [Cy,BF]);rw [this];simp [ba,Cy,BF,List.extract_eq_take_drop]
      rw [he];have hc:CW (cI c)=false:=by
       rcases hr with hr | hr
       ·rw [Cm] at hr;simpa [MC,cI] using hr
       ·cases hr
      have:=JJ (q:=CW) [] [c] (by simp) (.inl (by rw [Cm];exact hc));exact this
    unfold I8;rw [h0,if_neg (by rw [cap_no hb];decide),if_pos hb,hn];have:=Pn [b] r;rw [show (ba (Cy (.var ⟨⟨[b]⟩⟩)++r)).extract 0 (1+0)=ba [b] from this];rfl
   | [b,c],hg=>
    simp only [IF,Ao] at hg;obtain ⟨hb,hc⟩:=hg;have h0:Dw (ba (Cy (.var ⟨⟨[b,c]⟩⟩)++r)) 0=cI b:=Cm b _;have hn:B4 CW ((ba (Cy (.var ⟨⟨[b,c]⟩⟩)++r)).extract 1 (min 2 (ba (Cy (.var ⟨⟨[b,c]⟩⟩)++r)).size))=1:=by
     have he:(ba (Cy (.var ⟨⟨[b,c]⟩⟩)++r)).extract 1 (min 2 (ba (Cy (.var ⟨⟨[b,c]⟩⟩)++r)).size)=ba [c]:=by
      apply Ls;rw [DS,Dh,D5];have:min 2 (Cy (.var ⟨⟨[b,c]⟩⟩)++r).length=2:=(by simp [Cy,BF]);rw [this];simp [ba,Cy,BF,List.extract_eq_take_drop]
     rw [he];have:=JJ (q:=CW) [c] [] (by intro x hx;simp at hx;subst hx;exact hc) (.inr rfl);exact this
    unfold I8;rw [h0,if_neg (by rw [cap_no hb];decide),if_pos hb,hn];have:=Pn [b,c] r;rw [show (ba (Cy (.var ⟨⟨[b,c]⟩⟩)++r)).extract 0 (1+1)=ba [b,c] from this];rfl
 | int s=>
  cases s with
  | mk d=>cases d with | mk l=>
   simp only [IF,Ao,List.all_eq_true,decide_eq_true_eq] at hg;obtain ⟨⟨h1,h2⟩,h3⟩:=hg;cases l with
   | nil=>exact absurd rfl h1
   | cons b l=>
    have hb:CW (cI b)=true:=h2 b (by simp);have h0:Dw (ba (Cy (.int ⟨⟨b :: l⟩⟩)++r)) 0=cI b:=Cm b _;have hn:B4 CW (ba (Cy (.int ⟨⟨b :: l⟩⟩)++r))=(b :: l).length:=JJ (q:=CW) (b :: l) r h2 (hr.imp (fun h=>by simpa [MC] using h) id);unfold I8;rw [h0,if_neg (by rw [(dig_no hb).1];decide),if_neg (by rw [(dig_no hb).2];decide),if_pos hb,hn,if_pos h3];have:=Pn (b :: l) r;rw [show (ba (Cy (.int ⟨⟨b :: l⟩⟩)++r)).extract 0 (b :: l).length=ba (b :: l) from this];rfl
 | fin=>cases hg
 | arrow=>
  have h0:Dw (ba (Cy .arrow++r)) 0=58:=Cm 58 _;have ha:E5 (ba (Cy .arrow++r))=true:=by
   unfold E5;have:=Pn (Cy .arrow) r;rw [show (ba (Cy .arrow++r)).extract 0 2=ba (Cy .arrow) from this,show (ba (Cy .arrow)).toList=[58,45] from G9 _];simp [D5,Cy,BF]
  unfold I8;rw [h0,if_neg (by decide),if_neg (by decide),if_neg (by decide),if_neg (by decide),if_pos ha];rfl
 | lp=>unfold I8;rw [show Dw (ba (Cy .lp++r)) 0=40 from Cm 40 _];rfl
 | rp=>unfold I8;rw [show Dw (ba (Cy .rp++r)) 0=41 from Cm 41 _];rfl
 | comma=>unfold I8;rw [show Dw (ba (Cy .comma++r)) 0=44 from Cm 44 _];rfl
 | semi=>unfold I8;rw [show Dw (ba (Cy .semi++r)) 0=59 from Cm 59 _];rfl
 | dot=>unfold I8;rw [show Dw (ba (Cy .dot++r)) 0=46 from Cm 46 _];rfl
 | bang=>unfold I8;rw [show Dw (ba (Cy .bang++r)) 0=33 from Cm 33 _];rfl
theorem Qj {g:Sg} (hg:IF g=true) (r:List UInt8):(Cy g).length≠0∧Dw (ba (Cy g++r)) 0≠10∧Dw (ba (Cy g++r)) 0≠32∧Dw (ba (Cy g++r)) 0≠9∧Dw (ba (Cy g++r)) 0≠37:=by
 have low:∀ {x:Int},FE x=true∨FF x=true∨CW x=true→x≠10∧x≠32∧x≠9∧x≠37:=fun {x} h=>by
  simp only [FE,FF,CW,Ao,decide_eq_true_eq] at h;omega
 have key:∀ (b:UInt8) (l:List UInt8),(FE (cI b)=true∨FF (cI b)=true∨CW (cI b)=true)→(b :: l).length≠0∧Dw (ba ((b :: l)++r)) 0≠10∧Dw (ba ((b :: l)++r)) 0≠32∧Dw (ba ((b :: l)++r)) 0≠9∧Dw (ba ((b :: l)++r)) 0≠37:=fun b l h=>by
  rw [show Dw (ba ((b :: l)++r)) 0=cI b from Cm b _];exact ⟨by simp,low h⟩
 cases g with
 | dom=>exact key 100 [111,109] (by decide)
 | rel=>exact key 114 [101,108] (by decide)
 | name s=>
  cases s with
  | mk d=>cases d with | mk l=>
   cases l with
   | nil=>simp [IF] at hg
   | cons b l=>
    simp only [IF,Ao] at hg;exact key b l (.inl hg.1.1.1.1)
 | var s=>
  cases s with
  | mk d=>cases d with | mk l=>
   match l,hg with
   | [b],hg=>exact key b [] (.inr (.inl hg))
   | [b,c],hg=>simp only [IF,Ao] at hg;exact key b [c] (.inr (.inl hg.1))
 | int s=>
  cases s with
  | mk d=>cases d with | mk l=>
   simp only [IF,Ao,List.all_eq_true,decide_eq_true_eq] at hg;cases l with
   | nil=>exact absurd rfl hg.1.1
   | cons b l=>exact key b l (.inr (.inr (hg.1.2 b (by simp))))
 | fin=>cases hg
 | arrow=>rw [show Dw (ba (Cy .arrow++r)) 0=58 from Cm 58 _];decide
 | lp=>rw [show Dw (ba (Cy .lp++r)) 0=40 from Cm 40 _];decide
 | rp=>rw [show Dw (ba (Cy .rp++r)) 0=41 from Cm 41 _];decide
 | comma=>rw [show Dw (ba (Cy .comma++r)) 0=44 from Cm 44 _];decide
 | semi=>rw [show Dw (ba (Cy .semi++r)) 0=59 from Cm 59 _];decide
 | dot=>rw [show Dw (ba (Cy .dot++r)) 0=46 from Cm 46 _];decide
 | bang=>rw [show Dw (ba (Cy .bang++r)) 0=33 from Cm 33 _];decide
inductive Pc where
 | t (g:Sg)
 | sp
 | nl
def Iw:Pc→List UInt8
 | .t g=>Cy g
 | .sp=>[32]
 | .nl=>[10]
def Ah (ps:List Pc):List UInt8:=ps.flatMap Iw
def Bq:List Pc→Nat→List Tn
 | [],_=>[]
 | .t g :: ps,l=>⟨g,l⟩ :: Bq ps l
 | .sp :: ps,l=>Bq ps l
 | .nl :: ps,l=>Bq ps (l+1)
def De:List Pc→Nat→Nat
 | [],l=>l
 | .t _ :: ps,l=>De ps l
 | .sp :: ps,l=>De ps l
 | .nl :: ps,l=>De ps (l+1)
def JP:List Pc→Bool
 | []=>true
 | .t g :: ps=>IF g && (ps.isEmpty || MC g (Dw (ba (Ah ps)) 0)) && JP ps
 | _ :: ps=>JP ps
theorem Cg (p:Pc) (ps:List Pc):Ah (p :: ps)=Iw p++Ah ps:=by simp [Ah]
theorem BQ (ps qs:List Pc):Ah (ps++qs)=Ah ps++Ah qs:=by simp [Ah]
theorem Fl:∀ (ps:List Pc) (k l:Nat),JP ps=true→(Ah ps).length≤k→FN k (ba (Ah ps)) l=.inl (Bq ps l,De ps l)
 | [],k,l,_,_=>by cases k <;> rfl
 | .sp :: ps,k,l,h,hk=>by
  rw [Cg] at hk ⊢;cases k with
  | zero=>simp [Iw] at hk
  | succ k=>
   have hr:=TE [32] (Ah ps);rw [FN,if_neg (by rw [D5];simp [Iw]),show Dw (ba (Iw .sp++Ah ps)) 0=32 from Cm 32 _,if_neg (by decide),if_pos (.inl rfl),show (ba (Iw .sp++Ah ps)).extract 1 (ba (Iw .sp++Ah ps)).size=ba (Ah ps) from hr];exact Fl ps k l h (by simpa [Iw] using hk)
 | .nl :: ps,k,l,h,hk=>by
  rw [Cg] at hk ⊢;cases k with
  | zero=>simp [Iw] at hk
  | succ k=>
   have hr:=TE [10] (Ah ps);rw [FN,if_neg (by rw [D5];simp [Iw]),show Dw (ba (Iw .nl++Ah ps)) 0=10 from Cm 10 _,if_pos rfl,show (ba (Iw .nl++Ah ps)).extract 1 (ba (Iw .nl++Ah ps)).size=ba (Ah ps) from hr];exact Fl ps k (l+1) h (by simpa [Iw] using hk)
 | .t g :: ps,k,l,h,hk=>by
  rw [Cg] at hk ⊢;simp only [JP,Ao,Cw] at h;obtain ⟨⟨h1,h2⟩,h3⟩:=h;obtain ⟨f0,f1,f2,f3,f4⟩:=Qj h1 (Ah ps);have hc:=eK (r:=Ah ps) h1 (h2.symm.imp id (fun e=>by cases ps <;> simp at e;rfl));have hr:=TE (Cy g) (Ah ps);cases k with
  | zero=>simp [Iw] at hk;exact absurd (by rw [hk.1];rfl) f0
  | succ k=>
   show FN (k+1) (ba (Cy g++Ah ps)) l=_;have hk2:(Cy g).length+(Ah ps).length≤k+1:=(by simpa [Iw] using hk);rw [FN,if_neg (by rw [D5];simp;intro e;exact absurd (by rw [e];rfl) f0),if_neg f1,if_neg (by rintro (e | e);exact f2 e;exact f3 e),if_neg f4,hc];simp only [hr];rw [Fl ps k l h3 (by omega)];rfl
theorem CI:∀ (p q:List Pc) (l:Nat),Bq (p++q) l=Bq p l++Bq q (De p l)
 | [],_,_=>rfl
 | .t g :: p,q,l=>by simp only [A6,Bq,De];rw [CI p q l]
 | .sp :: p,q,l=>CI p q l
 | .nl :: p,q,l=>CI p q (l+1)
theorem DD:∀ (p q:List Pc) (l:Nat),De (p++q) l=De q (De p l)
 | [],_,_=>rfl
 | .t _ :: p,q,l=>DD p q l
 | .sp :: p,q,l=>DD p q l
 | .nl :: p,q,l=>DD p q (l+1)
def dK:Pc→Bool
 | .t _=>false
 | _=>true
theorem OC:∀ (p q:List Pc),JP p=true→(p.getLast?.map dK).getD true=true→JP q=true→JP (p++q)=true
 | [],_,_,_,h=>h
 | .sp :: p,q,h1,h2,h3=>OC p q h1 (by cases p with | nil=>rfl | cons x p=>simpa using h2) h3
 | .nl :: p,q,h1,h2,h3=>OC p q h1 (by cases p with | nil=>rfl | cons x p=>simpa using h2) h3
 | [.t g],q,h1,h2,h3=>by simp [dK] at h2
 | .t g :: x :: p,q,h1,h2,h3=>by
  simp only [JP,Ao,A6] at h1 ⊢;refine ⟨⟨h1.1.1,?_⟩,OC (x :: p) q h1.2 (by simpa using h2) h3⟩;have hx:∀ r,Dw (ba (Ah (x :: r))) 0=Dw (ba (Iw x)) 0:=fun r=>by
   have hz:(Iw x).length≠0:=by
    cases x with
    | sp=>simp [Iw]
    | nl=>simp [Iw]
    | t y=>
     have:=h1.2;simp only [JP,Ao] at this;exact (Qj this.1.1 []).1
   rw [Cg,Po,Po,At (by omega)]
  have h4:=h1.1.2;simp only [List.isEmpty_cons,Bool.false_or] at h4 ⊢;rw [hx] at h4 ⊢;exact h4
def Bz (ts:List Tn) (is:List CO) (us:List Tn):Prop:=∀ k,Dd (k+is.length) ts=match Dd k us with
 | .error l=>.error l
 | .ok r=>.ok (is++r)
theorem Bz.one {ts us:List Tn} {i:CO} (h:GC ts=.ok (i,us)) (hf:FB KX ts=false):Bz ts [i] us:=fun k=>by
 show Dd (k+1) ts=_;rw [Dd,hf,if_neg (by decide),h];dsimp only;cases Dd k us <;> rfl
theorem Bz.nil (ts:List Tn):Bz ts [] ts:=fun k=>by
 show Dd k ts=_;cases Dd k ts <;> rfl
theorem Bz.trans {ts us vs:List Tn} {is js:List CO} (h:Bz ts is us) (h2:Bz us js vs):Bz ts (is++js) vs:=fun k=>by
 have e:k+(is++js).length=(k+js.length)+is.length:=by simp;omega
 rw [e,h (k+js.length),h2 k];cases Dd k vs with
 | error l=>rfl
 | ok r=>simp
theorem JK:∀ (m:Mean) (is js:List CO),CN m (is++js)=match CN m is with
  | .error f=>.error f
  | .ok m'=>CN m' js
 | m,[],js=>rfl
 | m,i :: is,js=>by
  simp only [A6,CN];cases EB m i with
  | error f=>rfl
  | ok m'=>exact JK m' is js
def QC (l:List UInt8):Pc:=.t (.name (ba l))
def Gu (k:Nat):ByteArray:=ba [UInt8.ofNat (48+k)]
def ZX (k:Nat):Pc:=.t (.int (Gu k))
def H6 (c:UInt8):Pc:=.t (.var (ba [c]))
theorem cG {k:Nat} (h:k<10):C6 (.int (Gu k))=(k:Int):=by
 have:k=0∨k=1∨k=2∨k=3∨k=4∨k=5∨k=6∨k=7∨k=8∨k=9:=by omega
 rcases this with rfl | rfl | rfl | rfl | rfl | rfl | rfl | rfl | rfl | rfl <;> rfl
theorem OW {k:Nat} (h:k<10):IF (.int (Gu k))=true:=by
 have:k=0∨k=1∨k=2∨k=3∨k=4∨k=5∨k=6∨k=7∨k=8∨k=9:=by omega
 rcases this with rfl | rfl | rfl | rfl | rfl | rfl | rfl | rfl | rfl | rfl <;> rfl
def domP (k:Nat):List Pc:=[.t .dom,.sp,QC [100],.sp,ZX k,.t .semi,.sp]
def lO (n:List UInt8) (s:Pc):List Pc:=[.t .rel,.sp,QC n,.t .lp,QC [100],.t .rp,.t .semi,s]
def Jo (n:List UInt8) (s:Pc):List Pc:=[.t .rel,.sp,QC n,.t .lp,QC [100],.t .comma,.sp,QC [100],.t .rp,.t .semi,s]
def Gv (n:List UInt8) (a b:Pc):List Pc:=[QC n,.t .lp,a,.t .comma,.sp,b,.t .rp]
def Qg (s:Pc):List Pc:=Gv [112] (H6 88) (H6 89)++[.sp,.t .arrow,.sp]++Gv [101] (H6 88) (H6 89)++[.t .dot,s]
def jR (e:Nat×Nat):List Pc:=Gv [101] (ZX e.1) (ZX e.2)++[.t .dot,.sp]
def dT (l:Nat):Tn:=⟨.name (ba [100]),l⟩
def Zv (n:List UInt8) (a b:Sg) (l:Nat):Dz:=⟨⟨.name (ba n),l⟩,[⟨a,l⟩,⟨b,l⟩]⟩
def vS (c:UInt8):Sg:=.var (ba [c])
def eI2 (l:Nat) (e:Nat×Nat):CO:=.clause (Zv [101] (.int (Gu e.1)) (.int (Gu e.2)) l) []
theorem M7 {α:Type} {f:α→List Pc} (hf:∀ a l,De (f a) l=l):∀ (xs:List α) (l:Nat),De (xs.flatMap f) l=l
 | [],_=>rfl
 | a :: xs,l=>by rw [BK,DD,hf,M7 hf xs l]
def cT (k:Nat):BR:=⟨false,(k:Int)⟩
end
end Go.Proofs.YtgjomknpjigkhaaGreatDoor
