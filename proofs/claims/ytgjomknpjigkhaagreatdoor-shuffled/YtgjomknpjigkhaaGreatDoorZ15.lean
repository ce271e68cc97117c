import Derived.Test.YtgjomknpjigkhaaGreatDoorZ14
namespace Go.Proofs.YtgjomknpjigkhaaGreatDoor
open Go.Proofs.Tryz
set_option maxRecDepth 100000
set_option maxHeartbeats 4000000
section
open Go.RowKit
def Si (cs:List Ac) (HS:Nat→List (List Nat→Prop)) (i:Nat) (l:List Nat):Prop:=∃ (p:Nat) (c:Ac),cs[p]?=some c∧c.head.rel=i∧brings c.head.terms (fun ν=>M1 (HS p) c.lits.length ν) l
def Z2 (cs:List Ac) (HS:Nat→List (List Nat→Prop)) (Xf:Nat→List Nat→Prop) (i:Nat) (l:List Nat):Prop:=
 ∃ (p:Nat) (c:Ac) (k:Nat) (a:BW×Bool),cs[p]?=some c∧c.head.rel=i∧c.lits[k]?=some a∧brings c.head.terms (fun ν=>FJ Xf a ν∧M1 (Gb (HS p) (c.lits.map (FJ Xf)) c.lits.length) c.lits.length ν) l
def hsC (cs:List Ac) (HS:Nat→List (List Nat→Prop)) (Xf:Nat→List Nat→Prop) (p:Nat):List (List Nat→Prop):=match cs[p]? with | some c=>Gb (HS p) (c.lits.map (FJ Xf)) c.lits.length | none=>HS p
theorem Wi {us:List GV} {cs:List Ac} (hc:us.map (·.c)=cs) (hh:∀ u∈us,u.hs.length=u.c.lits.length) (HS:Nat→List (List Nat→Prop)) (i:Nat) (l:List Nat):It us HS us.length i l↔Si cs HS i l:=by
 subst hc;constructor
 ·rintro ⟨p,u,_,h2,h3,h4⟩;exact ⟨p,u.c,by rw [AW,h2];rfl,h3,by rw [←hh u (AE h2)];exact h4⟩
 ·rintro ⟨p,c,h2,h3,h4⟩;rw [AW] at h2;obtain ⟨u,hu,rfl⟩:=Cj.1 h2;exact ⟨p,u,(AL.1 hu).1,hu,h3,by rw [hh u (AE hu)];exact h4⟩
theorem Yz {us:List GV} {cs:List Ac} (hc:us.map (·.c)=cs) (HS:Nat→List (List Nat→Prop)) (Xf:Nat→List Nat→Prop) (i:Nat) (l:List Nat):JG us HS Xf us.length 0 i l↔Z2 cs HS Xf i l:=by
 subst hc;constructor
 ·rintro ⟨p,u,k,a,_,h2,h3,h4,h5⟩;exact ⟨p,u.c,k,a,by rw [AW,h2];rfl,h3,h4,h5⟩
 ·rintro ⟨p,c,k,a,h2,h3,h4,h5⟩;rw [AW] at h2;obtain ⟨u,hu,rfl⟩:=Cj.1 h2;exact ⟨p,u,k,a,.inl (AL.1 hu).1,hu,h3,h4,h5⟩
theorem iZ {us:List GV} {cs:List Ac} (hc:us.map (·.c)=cs) (HS:Nat→List (List Nat→Prop)) (Xf:Nat→List Nat→Prop) (p:Nat):Zm us HS Xf us.length p=hsC cs HS Xf p:=by
 subst hc;unfold Zm hsC;rw [AW];split
 ·rename_i h;rw [AB h];rfl
 ·rename_i h;rw [Af (by omega)];rfl
structure Rnd where
 rk:Nat→List Nat→Option Nat
 hs:Nat→List (List Nat→Prop)
 x:Nat→List Nat→Prop
noncomputable def Gj (cs:List Ac) (n:Nat) (rk0:Nat→List Nat→Option Nat) (hs0:Nat→List (List Nat→Prop)):Nat→Rnd
 | 0=>⟨rk0,hs0,Jl (Si cs hs0) rk0 n⟩
 | t+1=>⟨EJ (Gj cs n rk0 hs0 t).rk (Gj cs n rk0 hs0 t).x (t+1) n,hsC cs (Gj cs n rk0 hs0 t).hs (Gj cs n rk0 hs0 t).x,Jl (Z2 cs (Gj cs n rk0 hs0 t).hs (Gj cs n rk0 hs0 t).x) (EJ (Gj cs n rk0 hs0 t).rk (Gj cs n rk0 hs0 t).x (t+1) n) n⟩
theorem gV (cs:List Ac) (n:Nat) (rk0:Nat→List Nat→Option Nat) (hs0:Nat→List (List Nat→Prop)) (t:Nat) {i:Nat} {l:List Nat} (hi:i<n) (hx:(Gj cs n rk0 hs0 t).x i l):(Gj cs n rk0 hs0 t).rk i l=none:=by
 have h1:((Gj cs n rk0 hs0 t).rk i l).isSome≠true:=by
  cases t with
  | zero=>exact hx.2 hi
  | succ t=>exact hx.2 hi
 cases h:(Gj cs n rk0 hs0 t).rk i l with
 | none=>rfl
 | some m=>rw [h] at h1;simp at h1
def bW (n:Nat) (rk:List Nat→Option Nat):Nat:=((DP n).filter (fun l=>(rk l).isNone)).length
def EQ (rks:Nat→List Nat→Option Nat):List Nat→Nat→Nat
 | [],_=>0
 | n :: ns,i=>bW n (rks i)+EQ rks ns (i+1)
theorem OB {α:Type} {p q:α→Bool} (h:∀ x,p x=true→q x=true):∀ l:List α,(l.filter p).length≤(l.filter q).length
 | []=>AQ _
 | a :: l=>by
  have ih:=OB h l;cases hp:p a
  ·cases hq:q a
   ·simpa [hp,hq] using ih
   ·simp only [CD,hp,hq,if_true,AU];simp;omega
  ·have hq:=h a hp;simp only [CD,hp,hq,if_true,AU];omega
theorem SN {α:Type} {p q:α→Bool} (h:∀ x,p x=true→q x=true):∀ (l:List α) (x:α),x∈l→q x=true→p x=false→(l.filter p).length<(l.filter q).length
 | [],_,hx,_,_=>by cases hx
 | a :: l,x,hx,h1,h2=>by
  have le:=OB h l;rcases AG.1 hx with rfl | hx
  ·simp only [CD,h1,h2,if_true,AU];simp;omega
  ·have ih:=SN h l x hx h1 h2;cases hp:p a
   ·cases hq:q a
    ·simpa [hp,hq] using ih
    ·simp only [CD,hp,hq,if_true,AU];simp;omega
   ·have hq:=h a hp;simp only [CD,hp,hq,if_true,AU];omega
theorem NQ {rks rks':Nat→List Nat→Option Nat} (h:∀ i l,(rks' i l).isNone=true→(rks i l).isNone=true):∀ (ns:List Nat) (i:Nat),EQ rks' ns i≤EQ rks ns i
 | [],_=>AQ _
 | _ :: ns,i=>Nat.add_le_add (OB (h i) _) (NQ h ns (i+1))
theorem NP {rks rks':Nat→List Nat→Option Nat} (h:∀ i l,(rks' i l).isNone=true→(rks i l).isNone=true) {l:List Nat}:∀ (ns:List Nat) (i j n:Nat),ns[j]?=some n→l∈DP n→rks (i+j) l=none→(rks' (i+j) l).isNone=false→EQ rks' ns i<EQ rks ns i
 | [],_,_,_,hj,_,_,_=>by simp at hj
 | m :: ns,i,0,n,hj,hl,h1,h2=>by
  have e:m=n:=by simpa using hj
  subst e;exact Nat.add_lt_add_of_lt_of_le (SN (h i) _ l hl (by show ((rks i l).isNone)=true;rw [show i=i+0 by omega,h1];rfl) h2) (NQ h ns (i+1))
 | m :: ns,i,j+1,n,hj,hl,h1,h2=>by
  have e:i+(j+1)=i+1+j:=by omega
  rw [e] at h1 h2;exact Nat.add_lt_add_of_le_of_lt (OB (h i) _) (NP h ns (i+1) j n (by simpa using hj) hl h1 h2)
theorem Wg {rks:Nat→List Nat→Option Nat} {X:Nat→List Nat→Prop} {k n:Nat} (i:Nat) (l:List Nat) (h:(EJ rks X k n i l).isNone=true):(rks i l).isNone=true:=by
 unfold EJ at h;split at h
 ·unfold Fk at h;split at h
  ·simp at h
  ·exact h
 ·exact h
theorem Y2 {rks:Nat→List Nat→Option Nat} {X:Nat→List Nat→Prop} {k:Nat} {ns:List Nat} {j n:Nat} {l:List Nat} (hj:ns[j]?=some n) (hl:l∈DP n) (hX:X j l) (h0:rks j l=none):EQ (EJ rks X k ns.length) ns 0<EQ rks ns 0:=by
 refine NP Wg ns 0 j n hj hl (by rw [Ag];exact h0) ?_;rw [Ag];have hjl:=(AL.1 hj).1;unfold EJ Fk;rw [if_pos hjl,if_pos hX];rfl
theorem GW.some {S:ST} (hw:WF S) {f:Int} {c:Nat} {R:List Nat→Prop} (h:GW S f c R) (hf:f≠0):∃ l,l∈DP c∧R l:=by
 refine Classical.byContradiction fun hn=>hf ?_;refine Xx hw h.1 (Es S) fun σ=>?_;rw [CI];cases hd:S.den f σ with
 | false=>rfl
 | true=>exact absurd ⟨_,Lr σ c 0,(h.2 σ).1 hd⟩ hn
theorem jC {fs:List Int} (h:gB fs fs.length=true):∃ (j:Nat) (f:Int),fs[j]?=some f∧f≠0:=by
 unfold gB at h;rw [Bp,List.any_eq_true] at h;obtain ⟨f,hf,h1⟩:=h;obtain ⟨j,hj,rfl⟩:=A0 hf;exact ⟨j,_,AB hj,by simpa using h1⟩
theorem jD {fs:List Int} (h:gB fs fs.length=false):∀ (j:Nat) (f:Int),fs[j]?=some f→f=0:=fun j f hf=>by
 unfold gB at h;rw [Bp,List.any_eq_false] at h;have:=h f (AE hf);simpa using this
theorem En.swept {S S':ST} {rs:List BF} {Fs:Nat→List Nat→Prop} {rks:Nat→List Nat→Option Nat} (h:En S rs Fs rks) (hr:∀ (f:Int) (c:Nat) (R:List Nat→Prop),f∈Fo rs→GW S f c R→GW S' f c R):En S' rs Fs rks:=fun i r hi=>
 have hm:r∈rs:=AE hi
 ⟨hr _ _ _ (Ap.2 ⟨r,hm,by simp⟩) (h i r hi).fa,hr _ _ _ (Ap.2 ⟨r,hm,by simp⟩) (h i r hi).tu,(h i r hi).ranks⟩
theorem Fl.swept {S S':ST} {rs:List BF} {fs:List Int} {Xs:Nat→List Nat→Prop} (h:Fl S rs fs Xs) (hr:∀ (f:Int) (c:Nat) (R:List Nat→Prop),f∈fs→GW S f c R→GW S' f c R):Fl S' rs fs Xs:=⟨h.1,fun i r f h1 h2=>hr _ _ _ (AE h2) (h.2 i r f h1 h2)⟩
theorem Jm.swept {S S':ST} {us:List GV} {HS:Nat→List (List Nat→Prop)} (h:Jm S us HS) (hr:∀ (f:Int) (c:Nat) (R:List Nat→Prop),f∈FW us→GW S f c R→GW S' f c R):Jm S' us HS:=fun i u hi=>⟨(h i u hi).1,fun k y H h1 h2=>hr _ _ _ (Ap.2 ⟨u,AE hi,AE h1⟩) ((h i u hi).2 k y H h1 h2)⟩
theorem F9.ftp_lt {w:World} {bb gr cr:Nat} {B:SB} {S:ST} {rs:List BF} {x0 x1 x3:Value} (h:F9 w bb B S gr cr rs x0 x1 x3):∀ j∈ftp B gr rs,j<w.heap.size:=fun j hj=>by
 simp only [ftp,AG,AC,AM] at hj;rcases hj with rfl | ⟨r,hr,rfl⟩ | hj
 ·obtain ⟨cs,hc,_⟩:=h.rel;exact hc.lt
 ·exact (h.maps r hr).lt
 ·exact h.eng.sat.lt j hj
theorem LF.rus {w w':World} {S:ST} {rks:Nat→List Nat→Option Nat} {v:Value} {us:List GV} {X T:List Nat} (h:LF w' w.heap.size S rks v us) (hX:∀ j∈X,j<w.heap.size) (hclu:∀ u∈us,Ix w X u.toCluX) (k:AA T w w') (hT:∀ j∈T,j∈X):∃ ua gu uc,v=.slice ua us.length uc∧(0<us.length→ua=some ⟨gu,0,none⟩)∧FS w' X gu us:=by
 have hclu':∀ u∈us,Ix w' (us.map (·.gh)++X) u.toCluX:=fun u hu=>((hclu u hu).apart (Y:=us.map (·.gh)++X) (fun j hj=>by
  rcases AC.1 hj with q | q
  ·obtain ⟨x,hx,rfl⟩:=AM.1 q;exact .inr (h.hld x hx).2.1
  ·exact .inl q)).keeps k (fun j hj=>.inl (AC.2 (.inr (hT j hj))))
 have hhld:∀ u∈us,B8 w' u.gh u.hs∧u.gh∉X∧u.hs.length=u.c.lits.length:=fun u hu=>by
  obtain ⟨h1,h2,h3,_,_⟩:=h.hld u hu;exact ⟨h1,fun q=>by have:=hX _ q;omega,h3⟩
 obtain ⟨e0,⟨rfl,e2⟩ | ⟨g,cap,cur,rfl,e2,e3,e4,e5,e6,e7⟩⟩:=id h.row
 ·exact ⟨none,0,0,by rw [e2],fun q=>by omega,⟨fun q=>by omega,fun q=>by omega,hclu',hhld,h.nodup⟩⟩
 ·refine ⟨some ⟨g,0,none⟩,g,cap,rfl,fun _=>rfl,⟨fun _=>⟨cur,⟨_,e3⟩,fun i u hi=>?_⟩,fun _=>⟨fun q=>by have:=hX _ q;omega,fun u hu=>(h.hld u hu).2.2.2.2 g rfl⟩,hclu',hhld,h.nodup⟩⟩;have hil:=(AL.1 hi).1;have hget:∀ q,q<4→cur[i * 4+q]?=(nK u)[q]?:=fun q hq=>by
   rw [←gT hi hq,←e7,List.getElem?_take,if_pos (by omega),Cy]
  exact ⟨hget 0 (by omega),hget 1 (by omega),hget 2 (by omega),hget 3 (by omega)⟩
theorem O0 {rs rs':List BF} (h:DV rs rs') (i:Nat):Fw rs' i=Fw rs i:=by
 unfold Fw;cases e:rs[i]? with
 | none=>
  have:rs'[i]?=none:=Af (by rw [h.1];exact CO.1 e);rw [this]
 | some r=>
  obtain ⟨r',h1,h2⟩:=h.2 i r e;rw [h1];simp [h2.layer]
theorem LQ {rs rs':List BF} (h:DV rs rs') (lay:Nat):FI rs' lay=FI rs lay:=by
 funext k
 unfold FI;rw [O0 h]
theorem Lm.cs {us us':List GV} {j:Nat} (h:Lm us us' j):us'.map (·.c)=us.map (·.c)∧us'.map (·.gh)=us.map (·.gh):=by
 constructor
 all_goals
  apply Bj;intro p;rw [AW,AW];cases e:us[p]? with
  | none=>
   have:us'[p]?=none:=Af (by rw [h.1];exact CO.1 e);rw [this]
  | some u=>
   obtain ⟨u',h1,h2,h3,_⟩:=h.2 p u e;rw [h1];first | simp [h3];done | simp [show u'.c=u.c from by rw [h2]]
theorem aP {S:ST} {rs:List BF} {Fs:Nat→List Nat→Prop} {rks:Nat→List Nat→Option Nat} (ha:En S rs Fs rks) {fs:List Int} {Xs:Nat→List Nat→Prop} (hf:Fl S rs fs Xs) {us:List GV} {HS:Nat→List (List Nat→Prop)} (hH:Jm S us HS):Fz S (fs++Fo rs++FW us):=fun f hm=>by
 rcases AC.1 hm with hm | hm
 ·rcases AC.1 hm with hm | hm
  ·obtain ⟨i,hi,rfl⟩:=A0 hm;exact (hf.2 i _ _ (AB (by rw [←hf.1];exact hi)) (AB hi)).1
  ·obtain ⟨r,hr,hm⟩:=Ap.1 hm;obtain ⟨i,hi,rfl⟩:=A0 hr;have hR:=ha i _ (AB hi);simp only [AG,A7,or_false] at hm;rcases hm with rfl | rfl
   ·exact hR.fa.1
   ·exact hR.tu.1
 ·obtain ⟨u,hu,hm⟩:=Ap.1 hm;obtain ⟨i,hi,rfl⟩:=A0 hu;obtain ⟨k,hk,rfl⟩:=A0 hm;have h1:=hH i _ (AB hi);exact (h1.2 k _ _ (AB hk) (AB (by rw [←h1.1];exact hk))).1
theorem PY:∀ n,n≤3→(DP n).length≤512
 | 0,_=>by decide
 | 1,_=>by decide
 | 2,_=>by decide
 | 3,_=>by
  have h:(DP 2).length=64:=by decide
  show ((List.range 8).flatMap fun d=>(DP 2).map (d :: ·)).length≤512;simp only [List.length_flatMap,AY,h];decide
 | n+4,h=>by omega
theorem UB (rks:Nat→List Nat→Option Nat):∀ (ns:List Nat) (i:Nat),(∀ n∈ns,n≤3)→EQ rks ns i≤512 * ns.length
 | [],_,_=>by simp [EQ]
 | n :: ns,i,h=>by
  have h1:=UB rks ns (i+1) (fun m hm=>h m (AP _ hm));have h2:=PY n (h n (C2 ..));have h3:bW n (rks i)≤(DP n).length:=Bl _ _;simp only [EQ,AU];omega
def C3 (cs:List Ac) (rk:Nat→List Nat→Option Nat) (p:Nat):List (List Nat→Prop):=match cs[p]? with | some c=>c.lits.map (FY rk) | none=>[]
theorem LF.hol {w:World} {z:Nat} {S:ST} {rks:Nat→List Nat→Option Nat} {v:Value} {us:List GV} {cs:List Ac} (h:LF w z S rks v us) (hc:us.map (·.c)=cs):Jm S us (C3 cs rks):=fun i u hi=>by
 subst hc;have e:C3 (us.map (·.c)) rks i=u.c.lits.map (FY rks):=by unfold C3;rw [AW,hi];rfl
 rw [e];exact (h.hld u (AE hi)).2.2.2.1
def LayTo (bb gr cr:Nat) (B:SB) (rs:List BF) (x0 x1 x3:Value) (Fs:Nat→List Nat→Prop) (rk0:Nat→List Nat→Option Nat) (cs:List Ac) (w:World) (S:ST) (e:Ending) (w':World):Prop:=
 e=.returned (.tuple #[])∧∃ rs' S' T,F9 w' bb B S' gr cr rs' x0 x1 x3∧DV rs rs'∧AA (ftp B gr rs) w w'∧S'.next≤S.next+33000000000000∧En S' rs' Fs (Gj cs rs.length rk0 (C3 cs rk0) (T+1)).rk∧∀ (i:Nat) (r:BF),rs'[i]?=some r→GW S' 0 r.n ((Gj cs rs.length rk0 (C3 cs rk0) T).x i)
def fI (bb gr cr:Nat) (B:SB) (rs:List BF) (x0 x1 x3:Value) (Fs:Nat→List Nat→Prop) (rk0:Nat→List Nat→Option Nat) (cs:List Ac) (gu:Nat) (ghs:List Nat) (w:World) (S:ST) (x y:Value) (wr:World):Prop:=
 ∃ (t g cf:Nat) (fs:List Int) (S1:ST) (rs1:List BF) (us:List GV),x=.slice (some ⟨g,0,none⟩) rs.length cf∧y=.int .i64 ((t:Int)+1)∧F9 wr bb B S1 gr cr rs1 x0 x1 x3∧DV rs rs1∧AA (ftp B gr rs) w wr∧w.heap.size≤g∧g∉ghs∧B8 wr g fs∧FS wr (ftp B gr rs) gu us∧Hid (us.map (·.c)=cs)∧Hid (us.map (·.gh)=ghs)∧Fl S1 rs1 fs (Gj cs rs.length rk0 (C3 cs rk0) t).x∧Jm S1 us (Gj cs rs.length rk0 (C3 cs rk0) t).hs∧En S1 rs1 Fs (Gj cs rs.length rk0 (C3 cs rk0) t).rk∧Hid (S1.next≤S.next+5300000000+10520024570 * t)∧Hid (EQ (Gj cs rs.length rk0 (C3 cs rk0) t).rk (rs.map (·.n)) 0+t≤3072)
theorem UV {w:World} {bb gr cr:Nat} {B:SB} {S:ST} {rs:List BF} {x0 x1:Value} {ka:Option Addr} {ks:List CluX} {kc:Nat} (h:F9 w bb B S gr cr rs x0 x1 (.slice ka ks.length kc)) {Fs:Nat→List Nat→Prop} {rks:Nat→List Nat→Option Nat} (ha:En S rs Fs rks) (hks:KU w (ftp B gr rs) ka ks) (hok:∀ k∈ks,Ny rs k.c∧0<k.c.lits.length) (h52:ks.length≤52) (h0:0<rs.length) (lay:Nat) (hl:S.next+34000000000000<GN) :
  Calls prog 150 #[.pointer (some ⟨bb,0,none⟩),.int .i64 (lay:Int)] w (LayTo bb gr cr B rs x0 x1 (.slice ka ks.length kc) Fs (Dz rs Fs rks lay rs.length) ((ks.filter (FI rs lay)).map (·.c)) w S):=by
 have h6:=h.few;have hlv:=AD (US h ha lay (by omega));have Hl:=AD hl;clear hl;go_in
 go_wp2_with fail
 refine hlv.out.mono ?_;rintro e W1 ⟨rfl,rs1,S1,hb1,lk1,k1,x1',n1,ha1⟩;have hft:=lk1.ftp (B:=B) (gr:=gr);have hks1:=hks.keeps k1 (fun j hj=>.inl hj);have hbg:=AD (U5 hb1 ha1 (by rw [hft];exact hks1) (fun k hk=>⟨(hok k hk).1.like lk1,(hok k hk).2⟩) h52 lay (by have:=Hl.out;omega));have Hn1:=AD n1;clear n1 hlv;go_wp2_with fail
 refine hbg.out.mono ?_;rintro e W2 ⟨v,us,S2,rfl,hB2,hus,hE2,k2,x2,n2⟩;rw [LQ lk1] at hus;have hcs:us.map (·.c)=(ks.filter (FI rs lay)).map (·.c):=by rw [←hus,CZ];rfl
 have hb2:=hb1.store k2 hE2;have huk:∀ u∈us,u.toCluX∈ks:=fun u hu=>by
  have:u.toCluX∈us.map (·.toCluX):=AM.2 ⟨u,hu,rfl⟩;rw [hus] at this;exact (Ai.1 this).1
 have hul:us.length≤52:=by
  have e1:=congrArg List.length hus;rw [AY] at e1;have:=Bl (FI rs lay) ks;omega
 have hX:=h.ftp_lt;have hX1:∀ j∈ftp B gr rs,j<W1.heap.size:=fun j hj=>A4 (hX j hj) k1.size;obtain ⟨ua,gu,uc,hv,hua,hru⟩:=hB2.rus (X:=ftp B gr rs) hX1 (fun u hu=>hks1.clu _ (huk u hu)) k2 (fun j hj=>DR hj);subst hv;have hH2:=hB2.hol hcs;have hgh2:∀ u∈us,w.heap.size≤u.gh:=fun u hu=>At k1.size (hB2.hld u hu).2.1;have hok2:∀ u∈us,Ny rs u.c∧0<u.c.lits.length:=fun u hu=>hok _ (huk u hu);have ha2:=ha1.ext x2 hb1.eng.wf hE2.wf;have hfr:=AD (SM (uc:=uc) hb2 ha2 hua (by rw [hft];exact hru) (fun u hu=>(hok2 u hu).1.like lk1) hH2 hul (by have:=Hl.out;have:=Hn1.out;omega));have Hn2:=AD n2;have Hus:=AD hus;clear n2 hbg hus;go_wp2_with fail
 refine hfr.out.mono ?_;rintro e W3 ⟨g,cf,fs,S3,rfl,hg,hrow,hE3,k3,x3',n3,hf3⟩;generalize hCS:(ks.filter (FI rs lay)).map (·.c)=cs at *;generalize hRK:Dz rs Fs rks lay rs.length=rk0 at *;have hb3:=hb2.store k3 hE3;have hru3:=hru.keeps k3 (fun j hj=>.inl (DR hj));have kw3:AA (ftp B gr rs) w W3:=(k1.trans (k2.mono (fun j hj=>DR hj))).trans (k3.mono (fun j hj=>DR hj));have hgh:∀ q∈us.map (·.gh),w.heap.size≤q:=fun q hq=>by obtain ⟨u,hu,rfl⟩:=AM.1 hq;exact hgh2 u hu
 have hgn:g∉us.map (·.gh):=fun q=>by
  obtain ⟨u,hu,e⟩:=AM.1 q;have:=(hB2.hld u hu).1.lt;omega
 have hgw:w.heap.size≤g:=by have:=k1.size;have:=k2.size;omega
 have hf0:Fl S3 rs1 fs (Gj cs rs.length rk0 (C3 cs rk0) 0).x:=hf3.iff (fun i l=>by
  show Jl _ _ _ i l↔Jl _ _ _ i l;unfold Jl
  rw [Wi hcs (fun u hu=>(hB2.hld u hu).2.2.1),lk1.1])
 have hH0:Jm S3 us (Gj cs rs.length rk0 (C3 cs rk0) 0).hs:=hH2.ext x3' hE2.wf hE3.wf;have ha0:En S3 rs1 Fs (Gj cs rs.length rk0 (C3 cs rk0) 0).rk:=ha2.ext x3' hE2.wf hE3.wf;have hns:∀ n∈rs.map (·.n),n≤3:=fun n hn=>by obtain ⟨r,hr,rfl⟩:=AM.1 hn;exact h.cols r hr
 have hm0:=UB rk0 (rs.map (·.n)) 0 hns;rw [AY] at hm0;have Hn3:=AD (show S3.next≤S.next+5300000000 by have:=Hn1.out;have:=Hn2.out;omega);have Hcs:=AD hcs;have e0:rs1.length=rs.length:=lk1.1;rw [e0];generalize hGH:us.map (·.gh)=ghs at *;have Hst:fI bb gr cr B rs x0 x1 (.slice ka ks.length kc) Fs rk0 cs gu ghs w S (.slice (some ⟨g,0,none⟩) rs.length cf) (.int .i64 1) W3:=⟨0,g,cf,fs,S3,rs1,us,rfl,rfl,hb3,lk1,kw3,hgw,hgn,hrow,hru3,Hcs,AD hGH,hf0,hH0,ha0,AD (by have:=Hn3.out;omega),AD (by show EQ rk0 _ 0+0≤3072;omega)⟩;have hghs:∀ q∈ghs,w.heap.size≤q:=hgh;have hu0:us.length=cs.length:=by rw [←Hcs.out,AY]
 have hokc:∀ c∈cs,Ny rs c∧0<c.lits.length:=fun c hc=>by
  rw [←Hcs.out] at hc;obtain ⟨u,hu,rfl⟩:=AM.1 hc;exact hok2 u hu
 have Hu0:=AD hu0;have HCS:=AD hCS;have HRK:=AD hRK;have hbbw:=h.cells.lt;have HX:=AD hX;clear hu0 hok2 hm0 hns ha0 hH0 hf0 hgw hgn hgh hru3 hb3 hRK hCS hGH hf3 n3 x3' k3 hE3 hrow hg hfr ha2 hgh2 hH2 hru hX1 huk hb2 hcs k2 x2 hE2 hB2 hks1 hX Hn3 Hn2 Hn1 Hus kw3 hks hok h52 ha ha1 x1' k1 hb1 hft lk1 e0 Hcs;go_wp2_with fail
 go_loopw [5,6] (fun x y wr=>fI bb gr cr B rs x0 x1 (.slice ka ks.length kc) Fs rk0 cs gu ghs w S x y wr) (fun _ y _=>((4000:Int) - intOf y).toNat)
 case atStart=>exact Hst
 case round=>
  obtain ⟨t,g4,cf4,fs4,S4,rs4,us4,rfl,rfl,hb4,lk4,k4,hg4,hgn4,hrow4,hru4,hc4,hgh4,hf4,hH4,ha4,hn4,hm4⟩:=hrel;have hft4:=lk4.ftp (B:=B) (gr:=gr);have hfl:fs4.length=rs.length:=by rw [hf4.1,lk4.1]
  have er:((t+1:Nat):Int)=(t:Int)+1:=by omega
  have ht:t≤3072:=by have:=hm4.out;omega
  have hgX:g4∉ftp B gr rs:=fun q=>by have:=HX.out _ q;omega
  have hfc:=Uj (cf:=cf4) hb4 ha4 hrow4 (by rw [hft4];exact hgX) hf4 (t+1) (by have:=Hl.out;have:=hn4.out;omega);have Hgn:=AD (fun (q:gB fs4 fs4.length=false)=>jD q);have Hgs:=AD (fun (q:gB fs4 fs4.length=true)=>jC q);rw [hfl,er] at hfc;rw [hfl] at Hgn Hgs;have Hfc:=AD hfc;have Hfl:=AD hfl;have Hst4:=AD Hst;clear hfc hfl er Hst;go_wp2_with fail
  refine Hfc.out.mono ?_;rintro e W5 ⟨rfl,rs5,S5,hb5,lk5,k5,x5,n5,ha5⟩;rw [hft4] at k5;rw [lk4.1] at ha5;have lk45:=lk4.trans lk5;have Hn5:=AD n5;clear n5 Hfc;cases hgb:gB fs4 rs.length with
  | false=>
   have hz:=AD (Hgn.out hgb);go_wp2_with fail
   go_end0
   rw [HCS.out,HRK.out];refine ⟨rfl,rs5,S5,t,hb5,lk45,k4.trans k5,by have:=hn4.out;have:=Hn5.out;omega,ha5,fun i r hr=>?_⟩;have hif:i<fs4.length:=by rw [Hfl.out,←lk45.1];exact (AL.1 hr).1
   have hff:=AB hif;have e:=hz.out i _ hff;rw [e] at hff;exact ((hf4.like lk5).2 i r 0 hr hff).ext x5 hb4.eng.wf hb5.eng.wf
  | true=>
   obtain ⟨j0,f0,hf0,hne⟩:=Hgs.out hgb;have hj0:j0<rs.length:=by rw [←Hfl.out];exact (AL.1 hf0).1
   have hmiss:EQ (Gj cs rs.length rk0 (C3 cs rk0) (t+1)).rk (rs.map (·.n)) 0<EQ (Gj cs rs.length rk0 (C3 cs rk0) t).rk (rs.map (·.n)) 0:=by
    obtain ⟨r4,hr4,hlr⟩:=lk4.2 j0 _ (AB hj0);obtain ⟨l,hl1,hl2⟩:=(hf4.2 j0 r4 f0 hr4 hf0).some hb4.eng.wf hne;have hms:=Y2 (ns:=rs.map (·.n)) (k:=t+1) (j:=j0) (n:=r4.n) (by rw [AW,AB hj0,hlr.n];rfl) hl1 hl2 (gV cs rs.length rk0 (C3 cs rk0) t hj0 hl2);rw [AY] at hms;exact hms
   have hul4:us4.length=us.length:=(by rw [Hu0.out,←hc4.out,AY]);have hru5:=hru4.keeps k5 (fun j hj=>.inl hj);have hft5:=lk45.ftp (B:=B) (gr:=gr);have hok5:∀ u∈us4,Ny rs5 u.c∧0<u.c.lits.length:=fun u hu=>by
    have hm:u.c∈cs:=by rw [←hc4.out];exact AM.2 ⟨u,hu,rfl⟩
    exact ⟨(hokc _ hm).1.like lk45,(hokc _ hm).2⟩
   have hgw4:∀ u∈us4,w.heap.size≤u.gh:=fun u hu=>hghs _ (by rw [←hgh4.out];exact AM.2 ⟨u,hu,rfl⟩);have hown:∀ j∈B.own,j<w.heap.size:=h.eng.sat.lt;have hH5:=hH4.ext x5 hb4.eng.wf hb5.eng.wf;have hf5:=(hf4.like lk5).ext x5 hb4.eng.wf hb5.eng.wf
   have hnx:=T8 (uc:=uc) (cF:=cf4) hb5 ha5 (fun q=>hua (by omega)) (by rw [hft5];exact hru5) (fun u hu e=>by have:=hgw4 u hu;omega) hok5 hH5 (hrow4.keepsE k5 hgX) (fun q=>by
    rcases AC.1 q with q | q
    ·rw [hgh4.out] at q;exact hgn4 q
    ·have:=hown _ q;omega) hf5 (by omega) (by have:=Hl.out;have:=hn4.out;have:=Hn5.out;omega)
   rw [hul4,lk45.1] at hnx;have Hnx:=AD hnx;have Hul4:=AD hul4;clear hnx hul4 hf0 hne hj0;go_wp2_with fail
   refine Hnx.out.mono ?_;rintro e W6 ⟨g6,cf6,fs6,S6,us6,rfl,hg6,hrow6,hE6,k6,x6,n6,hf6,hru6,hlk6,hH6⟩;have Hn6:=AD n6;rw [lk45.1];rw [hft5] at hru6;have hul6:us6.length=us.length:=(by rw [hlk6.1,Hul4.out]);obtain ⟨hcs6,hghs6⟩:=hlk6.cs;rw [hc4.out] at hcs6;rw [hgh4.out] at hghs6
   have kw6:AA (ftp B gr rs) w W6:=(k4.trans k5).trans_new k6 (fun j hj=>by
    rcases AC.1 hj with q | q
    ·exact .inr (hghs j (by rw [←hgh4.out];exact q))
    ·exact .inl (DR q))
   have hgne:∀ q,q<w.heap.size→q∉B.own→q∉us4.map (·.gh)++B.own:=fun q h1 h2 hm=>by
    rcases AC.1 hm with hm | hm
    ·have:=hghs q (by rw [←hgh4.out];exact hm);omega
    ·exact h2 hm
   have hb6:=hb5.other k6 (hgne bb hbbw h.bbB) (hgne gr (HX.out gr (by simp [ftp])) h.grB) (fun r hr=>hgne r.rm (HX.out r.rm (by rw [←hft5];simp only [ftp,AG,AC,AM];exact .inr (.inl ⟨r,hr,rfl⟩))) (hb5.rmB r hr)) hE6;have hal6:En S6 rs5 Fs (Gj cs rs.length rk0 (C3 cs rk0) (t+1)).rk:=ha5.ext x6 hb5.eng.wf hE6.wf
   have hfo6:Fl S6 rs5 fs6 (Gj cs rs.length rk0 (C3 cs rk0) (t+1)).x:=hf6.iff (fun i l=>by
    show Jl _ _ _ i l↔Jl _ _ _ i l;unfold Jl
    rw [Yz hc4.out,lk45.1])
   have hho6:Jm S6 us6 (Gj cs rs.length rk0 (C3 cs rk0) (t+1)).hs:=fun i u hi=>by
    have:=hH6 i u hi;rw [iZ hc4.out] at this;exact this
   have h46:∀ u∈us6,u.hs.length≤4:=fun u hu=>by
    rw [(hru6.hld u hu).2.2];exact (hokc u.c (by rw [←hcs6];exact AM.2 ⟨u,hu,rfl⟩)).1.few
   have hfl6:fs6.length=rs.length:=(by rw [hfo6.1,lk45.1]);have hsw:=Lu (uc:=uc) hb6 (fun q=>hua (by omega)) hru6 h46 (by omega) (by omega) (Sd (cap:=cf6) hrow6 (by omega)) (by rw [lk45.1];exact h0) (aP hal6 hfo6 hho6);rw [hul6,hfl6] at hsw;have Hsw:=AD hsw;have hg6w:w.heap.size≤g6:=by have:=k4.size;have:=k5.size;omega
   have hg6n:g6∉ghs:=fun q=>by
    rw [←hgh4.out] at q;obtain ⟨u,hu,e⟩:=AM.1 q;have:=(hru5.hld u hu).1.lt;omega
   have hEnd:=AD (fun (W7:World) (S7:ST) (hE7:DB W7 B S7) (k7:AA B.own W6 W7) (n7:S7.next=S6.next) (hrep:∀ (f:Int) (c:Nat) (R:List Nat→Prop),f∈fs6++Fo rs5++FW us6→GW S6 f c R→GW S7 f c R)=>
    show fI bb gr cr B rs x0 x1 (.slice ka ks.length kc) Fs rk0 cs gu ghs w S (.slice (some ⟨g6,0,none⟩) rs.length cf6) (.int .i64 ((t:Int)+1+1)) W7 from
     ⟨t+1,g6,cf6,fs6,S7,rs5,us6,rfl,by simp,hb6.store k7 hE7,lk45,kw6.trans (k7.mono (fun j hj=>DR hj)),hg6w,hg6n,hrow6.keepsE k7 (fun q=>by have:=hown _ q;omega),hru6.keeps k7 (fun j hj=>.inl (DR hj)),AD hcs6,AD hghs6,hfo6.swept (fun f c R hf hR=>hrep f c R (by simp [hf]) hR),hho6.swept (fun f c R hf hR=>hrep f c R (by simp [hf]) hR),hal6.swept (fun f c R hf hR=>hrep f c R (by simp [hf]) hR),AD (by have:=hn4.out;have:=Hn5.out;have:=Hn6.out;push_cast;omega),AD (by have:=hm4.out;omega)⟩)
   clear hsw hfl6 hul6 h46 hho6 hfo6 hal6 hgne hcs6 hghs6 hrow6 hf6 hru6 hlk6 hH6 n6 Hnx;go_wp2_with fail
   refine Hsw.out.mono ?_;rintro e W7 ⟨rfl,S7,hE7,k7,n7,hrep⟩;have hI:=AD (hEnd.out W7 S7 hE7 k7 n7 hrep);clear hEnd Hsw hrep n7;go_wp2_with fail
   go_roundw
   ·exact hI.out
   ·simp only [intOf];omega
def MT (rs:List BF) (Fs:Nat→List Nat→Prop) (ks:List CluX) (lay:Nat) (rk rk':Nat→List Nat→Option Nat):Prop:=
 ∃ T,rk' = (Gj ((ks.filter (FI rs lay)).map (·.c)) rs.length (Dz rs Fs rk lay rs.length) (C3 ((ks.filter (FI rs lay)).map (·.c)) (Dz rs Fs rk lay rs.length)) (T+1)).rk ∧
  ∀ (i:Nat) (r:BF) (l:List Nat),rs[i]?=some r→l∈DP r.n→¬ (Gj ((ks.filter (FI rs lay)).map (·.c)) rs.length (Dz rs Fs rk lay rs.length) (C3 ((ks.filter (FI rs lay)).map (·.c)) (Dz rs Fs rk lay rs.length)) T).x i l
inductive E9 (rs:List BF) (Fs:Nat→List Nat→Prop) (ks:List CluX) (a:Nat) (rk:Nat→List Nat→Option Nat):Nat→(Nat→List Nat→Option Nat)→Prop
 | refl:E9 rs Fs ks a rk a rk
 | step {b:Nat} {rk1 rk2:Nat→List Nat→Option Nat}:E9 rs Fs ks a rk b rk1→MT rs Fs ks b rk1 rk2→E9 rs Fs ks a rk (b+1) rk2
theorem L9 {rs rs':List BF} (h:DV rs rs') (Fs:Nat→List Nat→Prop) (rks:Nat→List Nat→Option Nat) (lay j:Nat):Dz rs' Fs rks lay j=Dz rs Fs rks lay j:=by
 funext i
 unfold Dz;rw [O0 h]
theorem aU {S:ST} {c:Nat} {R:List Nat→Prop} (h:GW S 0 c R) {l:List Nat} (hl:l∈DP c):¬ R l:=fun hR=>by
 obtain ⟨σ,rfl⟩:=VB hl;have:=(h.2 σ).2 hR;rw [CI] at this;cases this
theorem Yg {S:ST} {rs:List BF} {Fs:Nat→List Nat→Prop} {rks:Nat→List Nat→Option Nat} (ha:En S rs Fs rks):Fz S ([]++Fo rs++FW []):=fun f hm=>by
 simp only [FW,BM,DS,BR] at hm;obtain ⟨r,hr,hm⟩:=Ap.1 hm;obtain ⟨i,hi,rfl⟩:=A0 hr;have hR:=ha i _ (AB hi);simp only [AG,A7,or_false] at hm;rcases hm with rfl | rfl
 ·exact hR.fa.1
 ·exact hR.tu.1
theorem FS.none (w:World) (X:List Nat):FS w X 0 []:=⟨fun q=>by simp at q,fun q=>by simp at q,fun u hu=>by simp at hu,fun u hu=>by simp at hu,by simp⟩
def WrkTo (bb gr cr:Nat) (B:SB) (rs:List BF) (x0 x1 x3:Value) (Fs:Nat→List Nat→Prop) (ks:List CluX) (a:Nat) (rks:Nat→List Nat→Option Nat) (w:World) (S:ST) (e:Ending) (w':World):Prop:=
 e=.returned (.tuple #[])∧∃ rs' S' rk',F9 w' bb B S' gr cr rs' x0 x1 x3∧DV rs rs'∧AA (ftp B gr rs) w w'∧S'.next≤S.next+200000000000000∧En S' rs' Fs rk'∧E9 rs Fs ks a rks rs.length rk'
theorem VP {w:World} {bb gr cr:Nat} {B:SB} {S:ST} {rs:List BF} {x0 x1:Value} {ka:Option Addr} {ks:List CluX} {kc:Nat} (h:F9 w bb B S gr cr rs x0 x1 (.slice ka ks.length kc)) {Fs:Nat→List Nat→Prop} {rks:Nat→List Nat→Option Nat} (ha:En S rs Fs rks) (hks:KU w (ftp B gr rs) ka ks) (hok:∀ k∈ks,Ny rs k.c∧0<k.c.lits.length) (h52:ks.length≤52) (h0:0<rs.length) (a:Nat) (han:a≤rs.length) (hl:S.next+250000000000000<GN) :
  Calls prog 75 #[.pointer (some ⟨bb,0,none⟩),.int .i64 (a:Int)] w (WrkTo bb gr cr B rs x0 x1 (.slice ka ks.length kc) Fs ks a rks w S):=by
 have h6:=h.few;have Hl:=AD hl;clear hl;go_in
 go_wp2_with fail
 go_loopw [1] (fun y wr=>∃ (j:Nat) (rs1:List BF) (S1:ST) (rk1:Nat→List Nat→Option Nat),y=.int .i64 j∧j≤rs.length∧F9 wr bb B S1 gr cr rs1 x0 x1 (.slice ka ks.length kc)∧DV rs rs1∧AA (ftp B gr rs) w wr∧Hid (S1.next≤S.next+33000000000000 * j)∧En S1 rs1 Fs rk1∧E9 rs Fs ks a rks j rk1) (fun y _=>((rs.length:Int) - intOf y).toNat)
 case atStart=>exact ⟨a,rs,S,rks,rfl,han,h,DV.refl rs,AA.refl _ _,AD (by omega),ha,.refl⟩
 case round=>
  obtain ⟨j,rs1,S1,rk1,rfl,hj,hb,lk,hk,hn,ha1,hst⟩:=hrel;have g2:=hb.cells.cell 2;simp at g2;rw [lk.1] at g2;by_cases hjl:j<rs.length
  ·have hjI:(j:Int)<rs.length:=(by omega);have hks1:=hks.keeps hk (fun j hj=>.inl hj);have hft:=lk.ftp (B:=B) (gr:=gr);have hly:=AD (UV hb ha1 (by rw [hft];exact hks1) (fun k hk=>⟨(hok k hk).1.like lk,(hok k hk).2⟩) h52 (by rw [lk.1];exact h0) j (by have:=Hl.out;have:=hn.out;omega));go_wp2_with fail
   refine hly.out.mono ?_;rintro e W5 ⟨rfl,rs5,S5,T,hb5,lk5,k5,n5,ha5,hx5⟩;rw [hft] at k5;rw [LQ lk,L9 lk,lk.1] at ha5 hx5
   have hstep:MT rs Fs ks j rk1 _:=⟨T,rfl,fun i r l hi hl=>by
    obtain ⟨r',h1,h2⟩:=(lk.trans lk5).2 i r hi
    exact aU (hx5 i r' h1) (by rw [h2.n];exact hl)⟩
   have Hn5:=AD n5;clear n5 hly g2;go_wp2_with fail
   go_roundw
   ·exact ⟨j+1,rs5,S5,_,by simp,by omega,hb5,lk.trans lk5,hk.trans k5,AD (by have:=hn.out;have:=Hn5.out;push_cast;omega),ha5,hst.step hstep⟩
   ·simp only [intOf];omega
  ·have hjI:¬ (j:Int)<rs.length:=(by omega);have e:j=rs.length:=(by omega);subst e;have hsw:=Lu (uc:=0) (ua:=none) (us:=[]) (gu:=0) (X:=[]) hb (fun q=>by simp at q) (FS.none _ _) (fun u hu=>by simp at hu) (by simp) (fs:=[]) (by simp) (Ws _) (by rw [lk.1];exact h0) (Yg ha1);have Hsw:=AD (show Calls prog 151 #[.pointer (some ⟨bb,0,none⟩),.slice none 0 0,.slice none 0 0] _ _ from hsw);clear hsw;go_wp2_with fail
   refine Hsw.out.mono ?_;rintro e W7 ⟨rfl,S7,hE7,k7,n7,hrep⟩;have Hrep:=AD hrep;clear hrep;go_wp2_with fail
   go_end0
   exact ⟨rfl,rs1,S7,rk1,hb.store k7 hE7,lk,hk.trans (k7.mono (fun q hq=>DR hq)),by rw [n7];have:=hn.out;omega,ha1.swept (fun f c R hf hR=>Hrep.out f c R (by simp [hf]) hR),hst⟩
def Qq (l:List Nat):List Int:=l.map fun d:Nat=>(d:Int)
theorem Q2:∀ (l:List Nat) (d p:Nat),asnF (l++[d]) p=asnF l p+r3 d * 2 ^ (3 * (p+l.length))
 | [],d,p=>by simp [asnF]
 | c :: l,d,p=>by
  have:=Q2 l d (p+1);simp only [A8,asnF,this,AU];rw [show p+1+l.length=p+(l.length+1) by omega];omega
theorem U8:∀ (l:List Nat) (p:Nat),asnF l p+2 ^ (3 * p)≤2 ^ (3 * (p+l.length))
 | [],p=>by simp [asnF]
 | d :: l,p=>by
  have ih:=U8 l (p+1);have h1:=bA d;have e:2 ^ (3 * (p+1))=8 * 2 ^ (3 * p):=by rw [show 3 * (p+1)=3 * p+3 by omega,Nat.pow_add];omega
  have h2:r3 d * 2 ^ (3 * p)≤7 * 2 ^ (3 * p):=Nat.mul_le_mul_right _ (by omega);simp only [asnF,AU];rw [show p+(l.length+1)=p+1+l.length by omega];omega
theorem iA:∀ d,d<8→∀ i,i<3→r3 d % 2 ^ (i+1)=r3 d % 2 ^ i+d / 2 ^ (2 - i) % 2 * 2 ^ i:=by decide
theorem iC {a:Nat} (h:a<4096):bits BinOp.or IntKind.i64 (a:Int) 0=(a:Int):=by
 have e2:=(bits_nat .i64 62 (by decide) (fun n a b=>by rw [IntKind.wrap_i64];omega) a 0 (by omega) (by omega)).2;have e3:(((0:Nat):Int))=0:=rfl;rw [e3] at e2;rw [e2,Nat.or_zero]
theorem mS {A d k i b:Nat} (hd:d<8) (hk:k<3) (hi:i<3) (hA:A<2 ^ (3 * k)) (hb:d / 2 ^ (2 - i) % 2=b):bits BinOp.or IntKind.i64 ((A+r3 d % 2 ^ i * 2 ^ (3 * k):Nat):Int) (IntKind.i64.wrap ((b:Int) * 2 ^ (3 * (k:Int)+(i:Int)).toNat))=((A+r3 d % 2 ^ (i+1) * 2 ^ (3 * k):Nat):Int):=by
 have hv:(3 * (k:Int)+(i:Int)).toNat=3 * k+i:=by omega
 have hb2:b<2:=by omega
 have hr:r3 d % 2 ^ i<2 ^ i:=Nat.mod_lt _ (Nat.two_pow_pos i);have hp:2 ^ (3 * k+i)=2 ^ i * 2 ^ (3 * k):=by rw [Nat.pow_add,DL]
 have h1:(r3 d % 2 ^ i+1) * 2 ^ (3 * k)≤2 ^ i * 2 ^ (3 * k):=Nat.mul_le_mul_right _ hr;rw [Nat.add_mul,Nat.one_mul] at h1;have hC:A+r3 d % 2 ^ i * 2 ^ (3 * k)<2 ^ (3 * k+i):=by omega
 have hv9:3 * k+i<9:=by omega
 have h512:2 ^ (3 * k+i)≤2 ^ 9:=C6 (by decide) (by omega);rw [hv,iA d hd i hi,hb,Nat.add_mul,←Nat.add_assoc,Nat.mul_assoc b,←hp];generalize A+r3 d % 2 ^ i * 2 ^ (3 * k)=C at *;have hcase:b=0∨b=1:=by omega
 rcases hcase with rfl | rfl
 ·have:IntKind.i64.wrap (((0:Nat):Int) * 2 ^ (3 * k+i))=0:=by simp [IntKind.wrap_i64]
  rw [this,D3,CY];exact iC (by omega)
 ·have e:((1:Nat):Int) * 2 ^ (3 * k+i)=((2 ^ (3 * k+i):Nat):Int):=by push_cast;omega
  have:IntKind.i64.wrap (((1:Nat):Int) * 2 ^ (3 * k+i))=((2 ^ (3 * k+i):Nat):Int):=by rw [e,IntKind.wrap_i64];omega
  rw [this,Nat.one_mul];exact Ru hC (by omega)
theorem jY {d m:Nat} (hd:d<8):bits BinOp.and IntKind.i64 ((d:Int) / 2 ^ m) 1=((d / 2 ^ m % 2:Nat):Int):=by
 have h0:(d:Int) / 2 ^ m=((d / 2 ^ m:Nat):Int):=by push_cast;rfl
 have h1:d / 2 ^ m≤d:=Nat.div_le_self _ _;rw [h0];generalize d / 2 ^ m=q at *;rw [Sm _ (by omega) (by omega)];omega
theorem Sl {w:World} {g cap:Nat} {l:List Nat} (hrow:B8 w g (Qq l)) (hl:l.length≤3) (hd:∀ x∈l,x<8):Calls prog 86 #[.slice (some ⟨g,0,none⟩) l.length cap] w fun e w'=>e=.returned (.int .i64 (asn l:Nat))∧AA [] w w':=by
 go_in
 go_wp2_with fail
 go_loopw [3,9] (fun x y wr=>∃ (k:Nat),y=.int .i64 k∧k≤l.length∧x=.int .i64 (asn (l.take k):Nat)∧AA [] w wr) (fun _ y _=>((l.length:Int) - intOf y).toNat)
 case atStart=>exact ⟨0,rfl,by omega,by simp [asn,asnF],AA.refl _ _⟩
 case round=>
  obtain ⟨k,rfl,hk,rfl,hkp⟩:=hrel;by_cases hkl:k<l.length
  ·have hkI:(k:Int)<l.length:=(by omega);obtain ⟨d,hdk⟩:∃ d,l[k]?=some d:=⟨_,AB hkl⟩;have hd8:=hd d (AE hdk);have c0:=(hrow.keepsE hkp).cell (i:=k) (x:=(d:Int)) (by simp [Qq,hdk]);have hfew:=U8 (l.take k) 0;have hnext:asn (l.take (k+1))=asn (l.take k)+r3 d * 2 ^ (3 * k):=by
    unfold asn;rw [An,hdk,Option.toList_some,Q2,BH,Ag,CA (by omega)]
   have hA0:asn (l.take k)<2 ^ (3 * k):=by
    rw [BH,Ag,CA (by omega)] at hfew;unfold asn;have:=Nat.two_pow_pos (3 * 0);omega
   have Hnext:=AD hnext;generalize hA:asn (l.take k)=A at *;have HA0:=AD hA0;have hk3:k<3:=(by omega);rename World=>wo;clear hnext hfew hA0;go_wp2_with fail
   clear c0;go_loopw [3,14] (fun x y wr=>∃ (i:Nat),y=.int .i64 i∧i≤3∧x=.int .i64 (A+r3 d % 2 ^ i * 2 ^ (3 * k):Nat)∧AA [] wo wr) (fun _ y _=>((3:Int) - intOf y).toNat)
   case atStart=>exact ⟨0,rfl,by omega,by simp [Nat.mod_one],AA.refl _ _⟩
   case round=>
    obtain ⟨i,rfl,hi,rfl,hkp2⟩:=hrel;by_cases hil:i<3
    ·have hiI:(i:Int)<3:=(by omega);obtain ⟨m,hm⟩:∃ m:Nat,2 - i=m:=⟨_,rfl⟩;have hmI:IntKind.i64.wrap (2 - (i:Int))=(m:Int):=by rw [IntKind.wrap_i64];omega
     have hvar:=AD (fun (W:World)=>Eb W k i (by omega) (by omega));have hm3:m<3:=(by omega);have hdI:(d:Int)<8:=(by omega);have hbq:=jY (d:=d) (m:=m) hd8;have hor:=mS (A:=A) (d:=d) (k:=k) (i:=i) (b:=d / 2 ^ m % 2) hd8 hk3 hil HA0.out (by rw [hm]);generalize d / 2 ^ m % 2=b at *;have Hor:=AD hor;generalize hC:A+r3 d % 2 ^ i * 2 ^ (3 * k)=C at *;generalize hD:A+r3 d % 2 ^ (i+1) * 2 ^ (3 * k)=D at *;have HD:=AD hD;clear hm hA hC hdk hor hD;go_wp2_with fail
     go_region_held3 (fun _=>True) (first | exact trivial)
      (first
      | (go_at_call 144
         refine (hvar.out _).mono ?_
         rintro e W5 ⟨rfl,rfl⟩))
     all_goals
      rw [Hor.out];go_wp2_with fail
      go_roundw
      ·exact ⟨i+1,by simp,by omega,by rw [HD.out],hkp2.trans (AA.drew [] _)⟩
      ·simp only [intOf];omega
    ·have hiI:¬ (i:Int)<3:=(by omega);have e:i=3:=(by omega);subst e;have e8:r3 d % 2 ^ 3=r3 d:=Ce (bA d);rw [e8];generalize hD:A+r3 d * 2 ^ (3 * k)=D at *;clear e8 hD;go_wp2_with fail
     go_roundw
     ·exact ⟨k+1,by simp,by omega,by rw [Hnext.out],hkp.trans hkp2⟩
     ·simp only [intOf];omega
  ·have hkI:¬ (k:Int)<l.length:=(by omega);have e:k=l.length:=(by omega);subst e;rw [Bp];go_wp2_with fail
   go_ret
   exact ⟨rfl,hkp⟩
section
variable {w:World} {bb gr cr:Nat} {B:SB} {S:ST} {rs:List BF} {x0 x1 x3:Value}
theorem mK (h:F9 w bb B S gr cr rs x0 x1 x3) {i:Nat} {r:BF} (hi:rs[i]?=some r):Calls prog 53 #[.pointer (some ⟨bb,0,none⟩),.int .i64 (i:Int)] w fun e w'=>e=.returned (.int .i64 (r.layer:Int))∧w' = w:=by
 obtain ⟨cs,hc,hcs⟩:=h.rel;have hil:(i:Int)<rs.length:=by have:=(AL.1 hi).1;omega
 have g1:w.cell? ⟨gr,i * 5+1,none⟩=some (.int .i64 (r.layer:Int)):=by rw [hc.cell];exact (hcs i r hi).c1
 have g2:=h.cells.cell 2;simp at g2;clear hi;go_in
 go_wp2
 go_ret
 exact ⟨rfl,rfl⟩
theorem SY (h:F9 w bb B S gr cr rs x0 x1 x3) {i:Nat} {r:BF} (hi:rs[i]?=some r):Calls prog 83 #[.pointer (some ⟨bb,0,none⟩),.int .i64 (i:Int)] w fun e w'=>e=.returned (.int .i64 (r.n:Int))∧w' = w:=by
 obtain ⟨cs,hc,hcs⟩:=h.rel;have hil:(i:Int)<rs.length:=by have:=(AL.1 hi).1;omega
 have g1:w.cell? ⟨gr,i * 5,none⟩=some (.slice r.sa r.n r.cc):=by rw [hc.cell];exact (hcs i r hi).c0
 have g2:=h.cells.cell 2;simp at g2;clear hi;go_in
 go_wp2
 go_ret
 exact ⟨rfl,rfl⟩
end
section
variable {w:World} {bb gr cr:Nat} {B:SB} {S:ST} {rs:List BF} {x0 x1 x3:Value}
theorem aI {i:Nat} {r:BF} (hi:rs[i]?=some r) (f:Int):(rs.set i { r with fa:=f }).map (·.rm)=rs.map (·.rm):=by
 apply Bj;intro p;rw [AW,AW,Aw];by_cases e:i=p
 ·subst e;rw [if_pos rfl,if_pos (AL.1 hi).1,hi];rfl
 ·rw [if_neg e]
theorem YZ {i:Nat} {r:BF} (hi:rs[i]?=some r) (f:Int):∀ q∈rs.set i { r with fa:=f },∃ q'∈rs,q.rm=q'.rm∧q.L=q'.L∧q.n=q'.n:=fun q hq=>by
 obtain ⟨p,hp,rfl⟩:=A0 hq;rw [List.getElem_set];split
 ·exact ⟨r,AE hi,rfl,rfl,rfl⟩
 ·exact ⟨_,CC _,rfl,rfl,rfl⟩
theorem F9.setFa (h:F9 w bb B S gr cr rs x0 x1 x3) {i:Nat} {r:BF} (hi:rs[i]?=some r) (f:Int):F9 (w.setCell ⟨gr,i * 5+2,none⟩ (.int .i64 f)) bb B S gr cr (rs.set i { r with fa:=f }) x0 x1 x3:=by
 have k:=AA.setCell w ⟨gr,i * 5+2,none⟩ (.int .i64 f);obtain ⟨cs,hc,hcs⟩:=h.rel;have hm:=YZ hi f;refine ⟨by rw [BI];exact h.cells.keeps k (by simpa using h.bbgr),h.eng.keeps k (fun z hz hm=>h.grB (by simp only [AF] at hm;rw [←hm];exact hz)),⟨_,hc.setCell (i * 5+2) (.int .i64 f),Pf.set hcs ((hcs i r hi).setFa f) (fun j q hj hq=>hq.other (by omega))⟩,fun q hq=>?_,h.bbB,h.grB,fun q hq=>?_,h.bbgr,fun q hq=>?_,fun q hq=>?_,by rw [aI hi];exact h.nodup,by rw [BI];exact h.few,fun q hq=>?_⟩;all_goals obtain ⟨q',hq',e1,e2,e3⟩:=hm q hq
 ·rw [e1,e2];exact (h.maps q' hq').kept k (by simpa using fun e=>h.grrm q' hq' e.symm)
 ·rw [e1];exact h.rmB q' hq'
 ·rw [e1];exact h.bbrm q' hq'
 ·rw [e1];exact h.grrm q' hq'
 ·rw [e3];exact h.cols q' hq'
def upF (Fs:Nat→List Nat→Prop) (i:Nat) (F:List Nat→Prop):Nat→List Nat→Prop:=fun j=>if j=i then F else Fs j
theorem En.setFa {Fs:Nat→List Nat→Prop} {rks:Nat→List Nat→Option Nat} (h:En S rs Fs rks) {i:Nat} {r:BF} (hi:rs[i]?=some r) {f:Int} {F:List Nat→Prop} (hf:GW S f r.n F):En S (rs.set i { r with fa:=f }) (upF Fs i F) rks:=fun j q hj=>by
 rw [Aw] at hj;unfold upF;by_cases e:i=j
 ·subst e;rw [if_pos rfl,if_pos (AL.1 hi).1] at hj;cases hj;rw [if_pos rfl];exact ⟨hf,(h i r hi).tu,(h i r hi).ranks⟩
 ·rw [if_neg e] at hj;rw [if_neg (fun q=>e q.symm)];exact h j q hj
end
end
end Go.Proofs.YtgjomknpjigkhaaGreatDoor
