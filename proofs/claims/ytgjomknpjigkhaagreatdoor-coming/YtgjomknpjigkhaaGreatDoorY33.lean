import Derived.Test.YtgjomknpjigkhaaGreatDoorY32
namespace Go.Proofs.YtgjomknpjigkhaaGreatDoor
set_option maxRecDepth 100000
set_option maxHeartbeats 4000000
section
open Go.RowKit
theorem Xu (n:Nat) (rk:Nat→List Nat→Option Nat):∀ t,nv [] n rk t=rk
 | 0=>rfl
 | t+1=>by
  funext i l
  simp only [nv];rw [if_neg]
  ·rw [Xu n rk t]
  ·rintro ⟨_,_,c,hc,_⟩;cases hc
noncomputable def LS (n:Nat) (Fs:Nat→List Nat→Prop):Nat→List Nat→Option Nat:=fun i=>if i<n then Fw (fun _=>none) (Fs i) 0 else fun _=>none
theorem cA {cs:List Ae} {n:Nat} {rk0:Nat→List Nat→Option Nat}:∀ (t:Nat) {i:Nat} (l:List Nat),n≤i→nv cs n rk0 t i l=rk0 i l
 | 0,_,_,_=>rfl
 | t+1,i,l,h=>by
  simp only [nv];rw [if_neg (fun q=>by have:=q.1;omega)];exact cA t l h
theorem Xw {cs:List Ae} {n:Nat} {rk0:Nat→List Nat→Option Nat} {i:Nat} {l:List Nat} {r:Nat} (h:rk0 i l=some r):∀ t,nv cs n rk0 t i l=some r
 | 0=>h
 | t+1=>by
  have ih:=Xw (cs:=cs) (n:=n) h t;rw [JQ (by rw [ih];simp),ih]
theorem JS {m:Mean} {vals:List Nat} (hv:∀ i,vals.getD i 0=0) {Fs:Nat→List Nat→Prop} {rk0:Nat→List Nat→Option Nat} (h0:∀ i l,m.rels.length≤i→rk0 i l=none):∀ (b:Nat) {rk:Nat→List Nat→Option Nat},Jv m vals Fs rk0 (b+1) rk→∃ T,∀ t,T≤t→rk=nv (m.clauses.filter C0) m.rels.length (LS m.rels.length Fs) t
 | 0,rk,h=>by
  cases h with
  | step h1 h2=>
   cases h1 with
   | refl=>
    obtain ⟨T,hT⟩:=h2;refine ⟨T,fun t ht=>?_⟩;rw [hT t ht];have e1:CD m vals 0=m.clauses.filter C0:=by
     unfold CD;rw [Ds];intro c _;rw [hv];rfl
    have e2:Dr m.rels.length vals Fs rk0 0=LS m.rels.length Fs:=by
     funext i
     unfold Dr LS;rw [hv];by_cases hi:i<m.rels.length
     ·simp [hi]
     ·simp only [hi,false_and,if_false];funext l
      exact h0 i l (by omega)
    rw [e1,e2]
 | b+1,rk,h=>by
  cases h with
  | @step _ rk1 _ h1 h2=>
   obtain ⟨T,hT⟩:=h2;have e1:CD m vals (b+1)=[]:=by
    unfold CD;rw [List.filter_eq_nil_iff];intro c _;rw [hv];simp
   have e2:Dr m.rels.length vals Fs rk1 (b+1)=rk1:=by
    funext i
    unfold Dr;rw [hv,if_neg (by omega)]
   have:=hT T (AS _);rw [e1,e2,Xu] at this;subst this;exact JS hv h0 b h1
theorem Pk {n:Nat} {Fs:Nat→List Nat→Prop} (i:Nat) (l:List Nat) (r:Nat) (h:LS n Fs i l=some r):r=0:=by
 unfold LS at h;split at h
 ·unfold Fw at h;split at h
  ·cases h;rfl
  ·cases h
 ·cases h
theorem Pm {n:Nat} {Fs:Nat→List Nat→Prop} {i:Nat} {l:List Nat} (hi:i<n) (h:Fs i l):LS n Fs i l=some 0:=by
 unfold LS;rw [if_pos hi];unfold Fw;rw [if_pos h]
theorem grow {m:Mean} {vals:List Nat} (hb:TL m.clauses) (hv:∀ i,vals.getD i 0=0) (hR:0<m.rels.length) {Fs Fs':Nat→List Nat→Prop} (hF:∀ i l,Fs i l→Fs' i l) {rk rk':Nat→List Nat→Option Nat} (h1:Jv m vals Fs (fun _ _=>none) m.rels.length rk) (h2:Jv m vals Fs' rk m.rels.length rk'):(∀ i l r,rk i l=some r→∃ r',r'≤r∧rk' i l=some r')∧∀ i l,i<m.rels.length→Fs' i l→rk' i l=some 0:=by
 obtain ⟨b,eb⟩:∃ b,m.rels.length=b+1:=⟨m.rels.length - 1,by omega⟩;have hb':TL (m.clauses.filter C0):=fun c hc=>hb c (Ap.1 hc).1;have h1':=h1;have h2':=h2;rw [eb] at h1' h2';obtain ⟨T1,t1⟩:=JS hv (fun _ _ _=>rfl) b h1';have hout:∀ i l,m.rels.length≤i→rk i l=none:=fun i l hi=>by
  rw [t1 T1 (AS _),cA T1 l hi];unfold LS;rw [if_neg (by omega)]
 obtain ⟨T2,t2⟩:=JS hv hout b h2';have e1:=t1 (max T1 T2) (Nat.le_max_left _ _);have e2:=t2 (max T1 T2) (Dv _ _);rw [e1,e2];refine ⟨fun i l r hr=>?_,fun i l hi hf=>Xw (Pm hi hf) _⟩;refine Xv hb' Pk Pk (fun i l hs=>?_) _ i l r hr;by_cases hi:i<m.rels.length
 ·by_cases hf:Fs i l
  ·rw [Pm hi (hF i l hf)];rfl
  ·unfold LS Fw at hs;simp [hi,hf] at hs
 ·unfold LS at hs;simp [hi] at hs
inductive P5 (m:Mean) (vals:List Nat) (Fs:Nat→List Nat→Prop) (a:Nat) (rk:Nat→List Nat→Option Nat):Nat→(Nat→List Nat→Option Nat)→Prop
 | refl:P5 m vals Fs a rk a rk
 | step {b:Nat} {rk1 rk2:Nat→List Nat→Option Nat}:P5 m vals Fs a rk b rk1→XW m vals Fs b rk1 rk2→P5 m vals Fs a rk (b+1) rk2
theorem Jv.from0 {m:Mean} {vals:List Nat} {Fs:Nat→List Nat→Prop} {rk rk':Nat→List Nat→Option Nat} {b:Nat} (h:Jv m vals Fs rk b rk'):P5 m vals Fs 0 rk b rk':=by
 induction h with
 | refl=>exact .refl
 | step _ h2 ih=>exact .step ih h2
theorem Q9 {m:Mean} {vals:List Nat} {rs:List A9} {ks:List CluX} (h:XU m vals rs) (hf:DI m) (hst:DT layG m.clauses vals) (hk:ks.map (·.c)=m.clauses.filter C0) {Fs:Nat→List Nat→Prop} {a:Nat} {rk:Nat→List Nat→Option Nat} {b:Nat} {rk':Nat→List Nat→Option Nat} (hs:EL rs Fs ks a rk b rk'):P5 m vals Fs a rk b rk':=by
 induction hs with
 | refl=>exact .refl
 | step _ h2 ih=>exact .step ih (Un h hf hst hk h2)
section
variable {m:Mean} {vals:List Nat} (hf:DI m) (hst:DT layG m.clauses vals)
theorem G6 {lay:Nat} {c:Ae} (h:c∈CD m vals lay):c∈m.clauses∧vals.getD c.head.rel 0=lay:=by
 unfold CD at h;obtain ⟨h1,h2⟩:=Ap.1 h;exact ⟨(Ap.1 h1).1,by simpa using h2⟩
theorem WO {lay n:Nat} {rk:Nat→List Nat→Option Nat}:∀ (t:Nat) {i:Nat},vals.getD i 0≠lay→nv (CD m vals lay) n rk t i=rk i
 | 0,_,_=>rfl
 | t+1,i,h=>by
  funext l
  simp only [nv]
  rw [if_neg (fun q=>by
   obtain ⟨c,hc,e,_⟩:=q.2.2;have:=(G6 hc).2;rw [e] at this
   exact h this),WO t h]
include hf hst in
theorem KQ {lay:Nat} {rk rk':Nat→List Nat→Option Nat} (h:∀ i,i<m.rels.length→vals.getD i 0≤lay→rk i=rk' i):∀ (t:Nat) (i:Nat),i<m.rels.length→vals.getD i 0≤lay→nv (CD m vals lay) m.rels.length rk t i=nv (CD m vals lay) m.rels.length rk' t i
 | 0,i,hi,hv=>h i hi hv
 | t+1,i,hi,hv=>by
  have ih:=KQ h t;have hd:∀ l,C1 (CD m vals lay) (nv (CD m vals lay) m.rels.length rk t) i l↔C1 (CD m vals lay) (nv (CD m vals lay) m.rels.length rk' t) i l:=fun l=>by
   have key:∀ c∈CD m vals lay,∀ a∈c.lits,∀ ν,Gb (nv (CD m vals lay) m.rels.length rk t) a ν↔Gb (nv (CD m vals lay) m.rels.length rk' t) a ν:=fun c hc a ha ν=>by
    obtain ⟨h1,h2⟩:=G6 hc;have q:max (vals.getD c.head.rel 0) (vals.getD a.1.rel 0+(if a.2 then 1 else 0))=vals.getD c.head.rel 0:=hst c h1 a ha;have hle:vals.getD a.1.rel 0≤lay:=by rw [h2] at q;have:=Dv lay (vals.getD a.1.rel 0+(if a.2 then 1 else 0));omega
    unfold Gb;rw [ih a.1.rel (hf.lits c h1 a ha).rel hle]
   constructor
   ·rintro ⟨c,hc,e,ν,hν,hl,ht⟩;exact ⟨c,hc,e,ν,hν,fun a ha=>(key c hc a ha ν).1 (hl a ha),ht⟩
   ·rintro ⟨c,hc,e,ν,hν,hl,ht⟩;exact ⟨c,hc,e,ν,hν,fun a ha=>(key c hc a ha ν).2 (hl a ha),ht⟩
  funext l
  simp only [nv];rw [ih i hi hv];by_cases q:i<m.rels.length∧nv (CD m vals lay) m.rels.length rk' t i l=none∧C1 (CD m vals lay) (nv (CD m vals lay) m.rels.length rk' t) i l
  ·rw [if_pos q,if_pos ⟨q.1,q.2.1,(hd l).2 q.2.2⟩]
  ·rw [if_neg q,if_neg (fun p=>q ⟨p.1,p.2.1,(hd l).1 p.2.2⟩)]
theorem cZ {Fs:Nat→List Nat→Prop} {b:Nat} {rk rk':Nat→List Nat→Option Nat} (h:XW m vals Fs b rk rk') {i:Nat} (hi:vals.getD i 0≠b):rk' i=rk i:=by
 obtain ⟨T,hT⟩:=h;rw [hT T (AS _),WO T hi];unfold Dr;rw [if_neg (fun q=>hi q.2)]
def Mh (m:Mean) (vals:List Nat) (Fs:Nat→List Nat→Prop) (rk:Nat→List Nat→Option Nat):Prop:=∀ b,b<m.rels.length→∃ T,∀ t,T≤t→∀ i,i<m.rels.length→vals.getD i 0≤b→nv (CD m vals b) m.rels.length (Dr m.rels.length vals Fs rk b) t i=rk i
theorem IR {Fs Fs':Nat→List Nat→Prop} {rk rk':Nat→List Nat→Option Nat} {b:Nat} (hF:∀ i,i<m.rels.length→vals.getD i 0=b→Fs i=Fs' i) (h:∀ i,i<m.rels.length→vals.getD i 0<b→rk i=rk' i):∀ i,i<m.rels.length→vals.getD i 0≤b→Dr m.rels.length vals Fs rk b i=Dr m.rels.length vals Fs' rk' b i:=fun i hi hv=>by
 unfold Dr;by_cases e:vals.getD i 0=b
 ·rw [if_pos ⟨hi,e⟩,if_pos ⟨hi,e⟩,hF i hi e]
 ·rw [if_neg (fun q=>e q.2),if_neg (fun q=>e q.2)];exact h i hi (by omega)
include hf hst in
theorem jN {Fs:Nat→List Nat→Prop} {rk rk':Nat→List Nat→Option Nat} (h:Mh m vals Fs rk) (h':Mh m vals Fs rk') (hlt:∀ i,i<m.rels.length→vals.getD i 0<m.rels.length):∀ i,i<m.rels.length→rk i=rk' i:=by
 have key:∀ b,b≤m.rels.length→∀ i,i<m.rels.length→vals.getD i 0<b→rk i=rk' i:=fun b=>by
  induction b with
  | zero=>intro _ i _ hv;omega
  | succ b ih=>
   intro hb i hi hv;obtain ⟨T,hT⟩:=h b (by omega);obtain ⟨T',hT'⟩:=h' b (by omega);rw [←hT (max T T') (Nat.le_max_left _ _) i hi (by omega),←hT' (max T T') (Dv _ _) i hi (by omega)];exact KQ hf hst (IR (fun _ _ _=>rfl) (ih (by omega))) _ i hi (by omega)
 exact fun i hi=>key m.rels.length (AS _) i hi (hlt i hi)
include hf hst in
theorem U6 {Fs Fs':Nat→List Nat→Prop} {rk rk':Nat→List Nat→Option Nat} {a:Nat} (h:∀ b,b<a→b<m.rels.length→∃ T,∀ t,T≤t→∀ i,i<m.rels.length→vals.getD i 0≤b→nv (CD m vals b) m.rels.length (Dr m.rels.length vals Fs rk b) t i=rk i) (hF:∀ i,i<m.rels.length→vals.getD i 0<a→Fs i=Fs' i) {n:Nat} (hs:P5 m vals Fs' a rk n rk'):∀ b,b<n→b<m.rels.length→∃ T,∀ t,T≤t→∀ i,i<m.rels.length→vals.getD i 0≤b→nv (CD m vals b) m.rels.length (Dr m.rels.length vals Fs' rk' b) t i=rk' i:=by
 induction hs with
 | refl=>
  intro b hb hn;obtain ⟨T,hT⟩:=h b hb hn;refine ⟨T,fun t ht i hi hv=>?_⟩;rw [←KQ hf hst (IR (fun j hj e=>hF j hj (by omega)) (fun _ _ _=>rfl)) t i hi hv];exact hT t ht i hi hv
 | @step c rk1 rk2 h1 h2 ih=>
  intro b hb hn;have keep:∀ i,vals.getD i 0<c→rk2 i=rk1 i:=fun i hi=>cZ h2 (by omega);by_cases hbc:b<c
  ·obtain ⟨T,hT⟩:=ih b hbc hn;refine ⟨T,fun t ht i hi hv=>?_⟩;rw [keep i (by omega),←hT t ht i hi hv];exact KQ hf hst (IR (fun _ _ _=>rfl) (fun j hj hjv=>keep j (by omega))) t i hi hv
  ·have e:b=c:=(by omega);subst e;obtain ⟨T,hT⟩:=h2;refine ⟨T,fun t ht i hi hv=>?_⟩;rw [hT t ht];refine KQ hf hst (IR (fun _ _ _=>rfl) (fun j hj hjv=>?_)) t i hi hv;rw [←hT t ht];exact keep j hjv
include hf hst in
theorem Zc {Fs:Nat→List Nat→Prop} {rk:Nat→List Nat→Option Nat} (h:Jv m vals Fs (fun _ _=>none) m.rels.length rk):Mh m vals Fs rk:=fun b hb=>U6 hf hst (Fs:=Fs) (fun _ q _=>absurd q (Nat.not_lt_zero _)) (fun _ _ _=>rfl) h.from0 b hb hb
include hf hst in
theorem PJ {Fs Fs':Nat→List Nat→Prop} {rk rk':Nat→List Nat→Option Nat} (h:Mh m vals Fs rk) {j:Nat} (hF:∀ i,i≠j→Fs' i=Fs i) (hs:P5 m vals Fs' (vals.getD j 0) rk m.rels.length rk'):Mh m vals Fs' rk':=fun b hb=>U6 hf hst (fun c _ hc=>h c hc) (fun i _ hv=>(hF i (fun e=>by subst e;omega)).symm) hs b hb hb
end
theorem L7 {m:Mean} {z:Int} (hz:∀ d,m.size d≤z):∀ (ts:List Tn) (ds:List Nat) {sc sc':Bk} {xs:List BR},EJ m sc ts ds=.ok (xs,sc')→∀ x∈xs,x.isVar=false→x.num<z
 | [],_,_,_,xs,h,x,hx,_=>by simp [EJ] at h;obtain ⟨rfl,_⟩:=h;cases hx
 | _ :: _,[],_,_,xs,h,x,hx,_=>by simp [EJ] at h;obtain ⟨rfl,_⟩:=h;cases hx
 | t :: ts,d :: ds,sc,sc',xs,h,x,hx,hv=>by
  unfold EJ at h;split at h
  ·cases h
  rename_i y sc1 hy;split at h
  ·cases h
  rename_i ys sc2 hys;cases h;rcases AJ.1 hx with rfl | hx
  ·unfold II at hy;split at hy
   ·split at hy
    ·split at hy
     ·cases hy
     ·cases hy;cases hv
    ·split at hy
     ·cases hy
     ·cases hy;cases hv
   ·split at hy
    ·cases hy
    ·cases hy;have:=hz d;dsimp only;omega
  ·exact L7 hz ts ds hys x hx hv
theorem XN {z:Nat} {cs:List Ae} (d:Nat):(BY z cs).size d≤(z:Int):=by
 match d with
 | 0=>exact Co _
 | d+1=>show (0:Int)≤z;omega
def L1 (z:Nat) (cs:List Ae):Prop:=∀ c∈cs,∀ t∈c.head.terms,t.isVar=false→t.num<z
theorem Pa {z:Nat}:∀ (is:List CO),(∀ i∈is,∃ h ls,i=.clause h ls)→∀ {cs:List Ae} {m:Mean},CN (BY z cs) is=.ok m→L1 z cs→L1 z m.clauses
 | [],_,cs,m,h,hb=>by simp [CN] at h;subst h;exact hb
 | i :: is,hi,cs,m,h,hb=>by
  obtain ⟨hd,ls,rfl⟩:=hi i (by simp);unfold CN EB at h;dsimp only at h;unfold addClause at h;split at h
  ·cases h
  rename_i m1 h1;split at h1
  ·cases h1
  split at h1
  ·cases h1
  rename_i x sc hx;split at h1
  ·cases h1
  rename_i hr;cases h1;refine Pa is (fun j hj=>hi j (by simp [hj])) (cs:=cs++_) h ?_;intro c hc t ht hv;rcases AC.1 hc with hc | hc
  ·exact hb c hc t ht hv
  ·simp only [AG] at hc;subst hc;unfold Ge at hx;split at hx
   ·cases hx
   split at hx
   ·cases hx
   split at hx
   ·cases hx
   rename_i hts;cases hx;exact L7 XN _ _ hts t ht hv
theorem UA {s:ByteArray} {toks:List Tn} {m:Mean} (h:EE s=.ok (toks,m)):∀ c∈m.clauses,Eo c=false:=by
 unfold EE at h;split at h
 ·cases h
 split at h
 ·cases h
 split at h
 ·cases h
 split at h
 ·cases h
 split at h
 ·cases h
 rename_i hl;cases h;unfold Mz at hl;split at hl
 ·cases hl
 rename_i hf;exact Nk hf
theorem gV {c:Ae} (hs:Eo c=false) {t:BR} (ht:t∈c.head.terms) (hv:t.isVar=true):∃ a∈c.lits,a.2=false∧∃ u∈a.1.terms,u.isVar=true∧u.num=t.num:=by
 unfold Eo at hs;rw [List.any_eq_false] at hs
 have h1:=hs t.num (by
  unfold Ps Fz
  exact AC.2 (.inl (AR.2 ⟨t,Ap.2 ⟨ht,hv⟩,rfl⟩)))
 simp only [Ct,decide_eq_false_iff_not,Decidable.not_not] at h1;unfold TC Fz at h1;obtain ⟨a,ha,hn⟩:=A2.1 h1;obtain ⟨ha1,ha2⟩:=Ap.1 ha;obtain ⟨u,hu,e⟩:=AR.1 hn;obtain ⟨hu1,hu2⟩:=Ap.1 hu;exact ⟨a,ha1,by simpa using ha2,u,hu1,hu2,e⟩
theorem Vj {z:Nat} {cs:List Ae} {k:Nat} (hk:k<4) {l:List Nat} (hl:l.length=relK k) (hx:∀ x∈l,x<z):Nv (BY z cs) k l:=by
 have hc:∃ nm,(BY z cs).rels[k]?=some (nm,List.replicate (relK k) 0):=by
  have:k=0∨k=1∨k=2∨k=3:=by omega
  rcases this with rfl | rfl | rfl | rfl <;> exact ⟨_,rfl⟩
 obtain ⟨nm,hc⟩:=hc;refine ⟨⟨nm,_,hc,by rw [Bf];exact hl,fun p x d hp hd=>?_⟩⟩;have hd0:d=0:=by
  have:=AF hd;exact (List.mem_replicate.1 this).2
 subst hd0;show (x:Int)<(z:Int);have:=hx x (AF hp);omega
theorem Oo {z:Nat} {cs:List Ae} {k:Nat} (hk:k<4):(BY z cs).rels[k]?=some (IB k,List.replicate (relK k) 0)∧Dc ((BY z cs).rels.map Prod.fst) (IB k)=some k:=by
 have:k=0∨k=1∨k=2∨k=3:=by omega
 rcases this with rfl | rfl | rfl | rfl <;> exact ⟨rfl,by show Dc (T6.map Prod.fst) _=_;decide⟩
def mA (l k:Nat) (bs:List Nat):Ae:=⟨⟨k,bs.map cT⟩,[],l⟩
def CG (z:Nat):List Bc→Nat→List Ae
 | [],_=>[]
 | f :: fs,l=>mA l (kOf f.rel) (Cl z f.L (kOf f.rel)) :: CG z fs (l+1)
theorem OY {m:Mean} {z l:Nat} (hz:∀ d,d=0→m.size d=(z:Int)):∀ (bs:List Nat),(∀ b∈bs,b<z)→z≤8→EJ m [] (bs.map (fun a=>(⟨.int (Gu a),l⟩:Tn))) (List.replicate bs.length 0)=.ok (bs.map cT,[])
 | [],_,_=>rfl
 | b :: bs,h,h8=>by
  have hb:=h b (by simp);have t1:II m [] ⟨.int (Gu b),l⟩ 0=.ok (cT b,[]):=by
   show (if m.size 0≤C6 (.int (Gu b)) then (Except.error (9,l):Except J5 (BR×Bk)) else .ok (⟨false,C6 (.int (Gu b))⟩,[]))=_;rw [cG (by omega),hz 0 rfl,if_neg (by omega)];rfl
  simp only [A0,AV,List.replicate_succ,EJ,t1];rw [OY hz bs (fun x hx=>h x (by simp [hx])) h8]
theorem Wu {z:Nat} (h8:z≤8) {cs:List Ae} {l k:Nat} (hk:k<4) {bs:List Nat} (hl:bs.length=relK k) (hb:∀ b∈bs,b<z):EB (BY z cs) (dY l k bs)=if cs.length=52 then .error (6,l) else .ok (BY z (cs++[mA l k bs])):=by
 show addClause (BY z cs) (MY l k (bs.map (fun a=>.int (Gu a)))) []=_;unfold addClause;by_cases h52:cs.length=52
 ·rw [if_pos (show (BY z cs).clauses.length=52 from h52),if_pos h52];rfl
 ·rw [if_neg (show ¬ (BY z cs).clauses.length=52 from h52),if_neg h52];have hr:(BY z cs).rel (ba (IC k))=some k:=by
   have:k=0∨k=1∨k=2∨k=3:=(by omega);rcases this with rfl | rfl | rfl | rfl <;> (show Cz T6 _=_;decide)
  have hc:(BY z cs).cols k=List.replicate (relK k) 0:=by
   have:k=0∨k=1∨k=2∨k=3:=(by omega);rcases this with rfl | rfl | rfl | rfl <;> rfl
  have ha:Ge (BY z cs) [] (MY l k (bs.map (fun a=>.int (Gu a))))=.ok (⟨k,bs.map cT⟩,[]):=by
   unfold Ge;rw [show (BY z cs).rel (BF (MY l k (bs.map (fun a=>.int (Gu a)))).name.g)=some k from hr];dsimp only;rw [hc,if_neg (by rw [Bf,←hl];simp [MY])];rw [←hl];have:=OY (m:=BY z cs) (z:=z) (l:=l) (fun d e=>by subst e;rfl) bs hb h8;rw [show (MY l k (bs.map (fun a=>Sg.int (Gu a)))).terms=bs.map (fun a=>(⟨.int (Gu a),l⟩:Tn)) by simp [MY],this]
  rw [ha];rfl
theorem Nm {z:Nat} (h1:1≤z) (h8:z≤8):∀ (fs:List Bc) (l:Nat) (cs:List Ae) {m:Mean},CN (BY z cs) (Gn z fs l)=.ok m→m=BY z (cs++CG z fs l)
 | [],l,cs,m,h=>by
  have:BY z cs=m:=by simpa [Gn,CN] using h
  rw [←this];simp [CG]
 | f :: fs,l,cs,m,h=>by
  simp only [Gn,CN] at h
  rw [Wu h8 (HB f.rel) (by simp [Cl]) (fun b hb=>by
   obtain ⟨i,_,rfl⟩:=AR.1 hb
   exact HQ h1 f.L i)] at h
  split at h
  ·rename_i he;split at he
   ·cases h
   ·cases he
  ·rename_i m1 he;split at he
   ·cases he
   ·cases he;have:=Nm h1 h8 fs (l+1) _ h;rw [this,CG,Ag];rfl
theorem KK {z:Nat} {nm:List UInt8} {back:Bool}:∀ (rs:List ER) (l:Nat) {cs:List Ae} {m:Mean},CN (BY z cs) (FR z nm back rs l)=.ok m→(∀ c∈cs,c.lits≠[])→∃ rc,m=BY z rc∧∀ c∈rc,c.lits≠[]
 | [],l,cs,m,h,hc=>⟨cs,by simpa [FR,CN,eq_comm] using h,hc⟩
 | r :: rs,l,cs,m,h,hc=>by
  rw [FR] at h;split at h
  ·exact KK rs l h hc
  ·rename_i hb;unfold CN EB aX at h;dsimp only at h;unfold addClause at h;split at h
   ·cases h
   rename_i m1 h1;split at h1
   ·cases h1
   split at h1
   ·cases h1
   split at h1
   ·cases h1
   rename_i ys sc2 hr;cases h1;refine KK rs (l+1) (cs:=cs++_) h (fun c hcm=>?_);rcases AC.1 hcm with hcm | hcm
   ·exact hc c hcm
   ·simp only [AG] at hcm;subst hcm;dsimp only;intro e;subst e;have hne:(GT back r).map (Wd z nm l)≠[]:=by
     intro e;have h0:GT back r=[]:=List.map_eq_nil_iff.1 e;have:r.body.take 4=[]:=by
      unfold GT at h0;split at h0
      ·exact List.reverse_eq_nil_iff.1 h0
      ·exact h0
     cases hq:r.body with
     | nil=>rw [hq] at hb;simp at hb
     | cons x xs=>rw [hq] at this;simp at this
    cases hq:(GT back r).map (Wd z nm l) with
    | nil=>exact hne hq
    | cons x xs=>
     rw [hq] at hr;unfold E3 at hr;split at hr
     ·cases hr
     split at hr
     ·cases hr
     split at hr
     ·cases hr
     cases hr
theorem Y1 {z:Nat} (h1:1≤z) (h8:z≤8) {nm:List UInt8} (hn:TM nm) {back:Bool} {rs:List ER} {fs:List Bc} {toks:List Tn} {m:Mean} (hR:EE (ba (Ah (EP z nm back rs fs)))=.ok (toks,m)):∃ rc,CN (BY z []) (FR z nm back rs 2)=.ok (BY z rc)∧(∀ c∈rc,c.lits≠[])∧m=BY z (rc++CG z fs (De (rs.flatMap (Fm z nm back)) 2)):=by
 have h:=Qu h1 h8 hn hR;unfold KO at h;rw [Ag,JK,Nj h1 h8] at h;dsimp only at h;rw [JK] at h;cases hr:CN (BY z []) (FR z nm back rs 2) with
 | error f=>rw [hr] at h;cases h
 | ok m1=>
  rw [hr] at h;dsimp only at h;obtain ⟨rc,e,hc⟩:=KK rs 2 hr (fun c hc=>by cases hc);subst e;exact ⟨rc,rfl,hc,Nm h1 h8 fs _ rc h⟩
theorem JZ {z:Nat}:∀ (fs:List Bc) (l:Nat) {c:Ae},c∈CG z fs l→c.lits=[]∧∃ f∈fs,c.head=⟨kOf f.rel,(Cl z f.L (kOf f.rel)).map cT⟩
 | f :: fs,l,c,h=>by
  rw [CG] at h;rcases AJ.1 h with rfl | h
  ·exact ⟨rfl,f,by simp,rfl⟩
  ·obtain ⟨a,g,hg,e⟩:=JZ fs (l+1) h;exact ⟨a,g,by simp [hg],e⟩
theorem PO {z:Nat}:∀ (fs:List Bc) (l:Nat) {f:Bc},f∈fs→∃ c∈CG z fs l,c.lits=[]∧c.head=⟨kOf f.rel,(Cl z f.L (kOf f.rel)).map cT⟩
 | g :: fs,l,f,h=>by
  rw [CG];rcases AJ.1 h with rfl | h
  ·exact ⟨_,CK,rfl,rfl⟩
  ·obtain ⟨c,hc,e⟩:=PO fs (l+1) h;exact ⟨c,by simp [hc],e⟩
theorem eR (ν bs:List Nat):(bs.map cT).map (Jx ν)=bs:=by
 rw [C8];conv=>rhs;rw [←List.map_id bs]
 apply CV;intro b _;simp [cT,Jx]
def J1 (z:Nat) (fs:List Bc) (i:Nat) (l:List Nat):Prop:=∃ f∈fs,kOf f.rel=i∧Cl z f.L (kOf f.rel)=l
theorem Sj {z:Nat} {rc:List Ae} (hc:∀ c∈rc,c.lits≠[]) (fs:List Bc) (l0:Nat):E6 (rc++CG z fs l0)=J1 z fs:=by
 funext i l
 apply propext;constructor
 ·rintro ⟨c,hcm,hl,e,ν,hν,ht⟩;rcases AC.1 hcm with hcm | hcm
  ·exact absurd hl (hc c hcm)
  ·obtain ⟨_,f,hf,eh⟩:=JZ fs l0 hcm;rw [eh] at e ht;dsimp only at e ht;rw [eR] at ht;exact ⟨f,hf,e,ht⟩
 ·rintro ⟨f,hf,e,hl⟩;obtain ⟨c,hcm,h1,h2⟩:=PO (z:=z) fs l0 hf;refine ⟨c,AC.2 (.inr hcm),h1,by rw [h2];exact e,[0,0,0,0],by decide,?_⟩;rw [h2];dsimp only;rw [eR];exact hl
theorem Oi {z:Nat} {rc:List Ae} (hc:∀ c∈rc,c.lits≠[]) (fs:List Bc) (l0:Nat):(rc++CG z fs l0).filter C0=rc:=by
 rw [DW,Ds.2 (fun c h=>by
  have:=hc c h;unfold C0;simpa using List.length_pos_iff.2 this),List.filter_eq_nil_iff.2 (fun c h=>by
  have:=(JZ fs l0 h).1;unfold C0;rw [this]
  simp),Be]
theorem IK {z:Nat} {rc:List Ae} {fs:List Bc} {l0:Nat} {vals:List Nat}:DT layG (rc++CG z fs l0) vals↔DT layG rc vals:=by
 constructor
 ·intro h c hc;exact h c (AC.2 (.inl hc))
 ·intro h c hc l hl;rcases AC.1 hc with hc | hc
  ·exact h c hc l hl
  ·rw [(JZ fs l0 hc).1] at hl;cases hl
theorem YV {z n:Nat} {rc:List Ae} {fs fs':List Bc} {l0 l1:Nat} {vals vals':List Nat} (h:L0 (rc++CG z fs l0) n vals) (hs:DT layG (rc++CG z fs l0) vals) (h':L0 (rc++CG z fs' l1) n vals') (hs':DT layG (rc++CG z fs' l1) vals'):∀ i,vals.getD i 0=vals'.getD i 0:=fun i=>by
 have a:=h.2.2 vals' (IK.2 (IK.1 hs')) i;have b:=h'.2.2 vals (IK.2 (IK.1 hs)) i;omega
section
variable {m:Mean} {vals:List Nat} (hf:DI m) (hst:DT layG m.clauses vals)
include hf hst in
theorem SE {z b:Nat} (hz:1≤z) (hh:L1 z m.clauses) (hs:∀ c∈m.clauses,Eo c=false) {rk0:Nat→List Nat→Option Nat} (h0:∀ i,i<m.rels.length→vals.getD i 0≤b→∀ l,(rk0 i l).isSome=true→∀ x∈l,x<z):∀ (t i:Nat),i<m.rels.length→vals.getD i 0≤b→∀ l,(nv (CD m vals b) m.rels.length rk0 t i l).isSome=true→∀ x∈l,x<z
 | 0,i,hi,hv,l,h=>h0 i hi hv l h
 | t+1,i,hi,hv,l,h=>by
  have ih:=SE hz hh hs h0 t;simp only [nv] at h;split at h
  ·rename_i hc;obtain ⟨c,hcm,e,ν,hν,hl,ht⟩:=hc.2.2;obtain ⟨hc1,hc2⟩:=G6 hcm;intro x hx;rw [←ht] at hx;obtain ⟨u,hu,rfl⟩:=AR.1 hx;cases hvu:u.isVar with
   | false=>
    have:=hh c hc1 u hu hvu;unfold Jx;rw [hvu];simp only [BT,if_false];omega
   | true=>
    obtain ⟨a,ha,hn,q,hq,hqv,hqn⟩:=gV (hs c hc1) hu hvu;have h1:=hl a ha;unfold Gb at h1;rw [hn] at h1;simp only [BT,if_false] at h1;have q2:max (vals.getD c.head.rel 0) (vals.getD a.1.rel 0+(if a.2 then 1 else 0))=vals.getD c.head.rel 0:=hst c hc1 a ha;have hle:vals.getD a.1.rel 0≤b:=by rw [hc2] at q2;have:=Dv b (vals.getD a.1.rel 0+(if a.2 then 1 else 0));omega
    have h2:=ih a.1.rel (hf.lits c hc1 a ha).rel hle _ h1 (Jx ν q) (AR.2 ⟨q,hq,rfl⟩);have e2:Jx ν q=Jx ν u:=by unfold Jx;rw [hqv,hvu,hqn]
    rw [←e2];exact h2
  ·exact ih i hi hv l h
include hf hst in
theorem dS {z:Nat} (hz:1≤z) (hh:L1 z m.clauses) (hs:∀ c∈m.clauses,Eo c=false) {Fs:Nat→List Nat→Prop} (hF:∀ i l,Fs i l→∀ x∈l,x<z) {rk:Nat→List Nat→Option Nat} (h:Mh m vals Fs rk) (hlt:∀ i,i<m.rels.length→vals.getD i 0<m.rels.length):∀ i,i<m.rels.length→∀ l,(rk i l).isSome=true→∀ x∈l,x<z:=by
 have key:∀ b,b≤m.rels.length→∀ i,i<m.rels.length→vals.getD i 0<b→∀ l,(rk i l).isSome=true→∀ x∈l,x<z:=fun b=>by
  induction b with
  | zero=>intro _ i _ hv;omega
  | succ b ih=>
   intro hb i hi hv l hl;obtain ⟨T,hT⟩:=h b (by omega);rw [←hT T (AS _) i hi (by omega)] at hl;refine SE hf hst hz hh hs (fun j hj hjv q hq=>?_) T i hi (by omega) l hl;unfold Dr at hq;split at hq
   ·unfold Fw at hq;split at hq
    ·rename_i hfq;exact hF j q hfq
    ·cases hq
   ·exact ih (by omega) j hj (by omega) q hq
 exact fun i hi=>key m.rels.length (AS _) i hi (hlt i hi)
end
def Z6 (z:Nat):Nat→List (List Nat)
 | 0=>[[]]
 | n+1=>(List.range z).flatMap (fun x=>(Z6 z n).map (fun l=>x :: l))
theorem Te {z:Nat}:∀ (n:Nat) {l:List Nat},l.length=n→(∀ x∈l,x<z)→l∈Z6 z n
 | 0,l,h,_=>by rw [List.length_eq_zero_iff.1 h];simp [Z6]
 | n+1,[],h,_=>by simp at h
 | n+1,x :: l,h,hx=>by
  rw [Z6,A2];exact ⟨x,CH.2 (hx x (by simp)),AR.2 ⟨l,Te n (by simpa using h) (fun y hy=>hx y (by simp [hy])),rfl⟩⟩
def L4 (z:Nat):List (Nat×List Nat):=(List.range 4).flatMap (fun i=>(Z6 z (relK i)).map (fun l=>(i,l)))
theorem Mk {z i:Nat} {l:List Nat} (hi:i<4) (hl:l.length=relK i) (hx:∀ x∈l,x<z):(i,l)∈L4 z:=A2.2 ⟨i,CH.2 hi,AR.2 ⟨l,Te _ hl hx,rfl⟩⟩
theorem YW {z:Nat} (h:z≤4):(L4 z).length≤100:=by
 have:z=0∨z=1∨z=2∨z=3∨z=4:=by omega
 rcases this with rfl | rfl | rfl | rfl | rfl <;> decide
def XG (U:List (Nat×List Nat)) (rk:Nat→List Nat→Option Nat):Nat:=(U.filter (fun p=>(rk p.1 p.2).isNone)).length
theorem UJ {cs:List Ae} {n:Nat} {U:List (Nat×List Nat)} {rk0:Nat→List Nat→Option Nat} (hall:∀ t i l,i<n→C1 cs (nv cs n rk0 t) i l→(i,l)∈U):∀ (t:Nat) {i:Nat} {l:List Nat},i<n→nv cs n rk0 t i l=none→C1 cs (nv cs n rk0 t) i l→t+1+XG U (nv cs n rk0 (t+1))≤XG U rk0
 | t,i,l,hi,hn,hd=>by
  have hnew:=Lh hi hn hd;have hstep:XG U (nv cs n rk0 (t+1))<XG U (nv cs n rk0 t):=by
   refine Sf (fun p hp=>?_) U (i,l) (hall t i l hi hd) (by dsimp only;rw [hn];rfl) (by dsimp only;rw [hnew];rfl);cases hx:nv cs n rk0 t p.1 p.2 with
   | none=>rfl
   | some y=>
    rw [JQ (by rw [hx];simp),hx] at hp;cases hp
  cases t with
  | zero=>
   have:nv cs n rk0 0=rk0:=rfl;rw [this] at hstep;omega
  | succ t=>
   by_cases hex:∃ j q,j<n∧C1 cs (nv cs n rk0 t) j q∧nv cs n rk0 t j q=none
   ·obtain ⟨j,q,hj,h1,h2⟩:=hex;have:=UJ hall t hj h2 h1;omega
   ·exfalso;have hs:=KP (cs:=cs) (n:=n) (rk0:=rk0) (T:=t) (fun j q hj hq=>hex ⟨j,q,hj,hq.1,hq.2⟩) 1;rw [hs] at hn hd;exact hex ⟨i,l,hi,hd,hn⟩
theorem Zn {U:List (Nat×List Nat)} {rk:Nat→List Nat→Option Nat} (h:U.length≤XG U rk):∀ p∈U,rk p.1 p.2=none:=fun p hp=>by
 have e:=List.length_filter_eq_length_iff.1 (Nat.le_antisymm (BX _ U) h) p hp;simpa using e
theorem Zm {U:List (Nat×List Nat)} {rk:Nat→List Nat→Option Nat} (h:XG U rk=0):∀ p∈U,rk p.1 p.2≠none:=fun p hp q=>by
 have:=List.filter_eq_nil_iff.1 (List.length_eq_zero_iff.1 h) p hp;rw [q] at this;simp at this
theorem Pj {z:Nat} {cs:List Ae} {i:Nat} (hi:i<4):((BY z cs).cols i).length=relK i:=by
 have:i=0∨i=1∨i=2∨i=3:=by omega
 rcases this with rfl | rfl | rfl | rfl <;> rfl
theorem jO {z:Nat} {cs:List Ae} {vals:List Nat} (hf:DI (BY z cs)) (hst:DT layG cs vals) (hz:1≤z) (h4:z≤4) (hh:L1 z cs) (hs:∀ c∈cs,Eo c=false) {Fs:Nat→List Nat→Prop} (hF:∀ i l,Fs i l→∀ x∈l,x<z) {rk:Nat→List Nat→Option Nat} (h:Mh (BY z cs) vals Fs rk) (hlt:∀ i,i<4→vals.getD i 0<4):∀ i,i<4→∀ l r,rk i l=some r→r<100:=by
 intro i hi l r hr;have hin:=dS hf hst hz hh hs hF h hlt;obtain ⟨b,hb⟩:∃ b,vals.getD i 0=b:=⟨_,rfl⟩;have hb4:b<4:=by rw [←hb];exact hlt i hi
 obtain ⟨T,hT⟩:=h b hb4;obtain ⟨rk0,hrk0⟩:∃ rk0,Dr (BY z cs).rels.length vals Fs rk b=rk0:=⟨_,rfl⟩;have h0:∀ j,j<4→vals.getD j 0≤b→∀ q,(rk0 j q).isSome=true→∀ x∈q,x<z:=fun j hj _ q hq=>by
  rw [←hrk0] at hq;unfold Dr at hq;split at hq
  ·unfold Fw at hq;split at hq
   ·rename_i hfq;exact hF j q hfq
   ·cases hq
  ·exact hin j hj q hq
 rw [hrk0] at hT;have h1:=hT T (AS _) i hi (by omega);rw [←h1] at hr;have hn:(BY z cs).rels.length=4:=rfl;rw [hn] at hr;rcases iN hr with hr | ⟨_,hr1,_,hr2,hr3⟩
 ·rw [←hrk0] at hr;unfold Dr at hr;rw [if_pos ⟨hi,hb⟩] at hr;unfold Fw at hr;split at hr
  ·cases hr;omega
  ·cases hr
 ·have hlen:∀ (rk':Nat→List Nat→Option Nat) j q,C1 (CD (BY z cs) vals b) rk' j q→q.length=relK j∧j<4∧vals.getD j 0=b:=fun rk' j q hd=>by
   obtain ⟨c,hcm,e,ν,hν,hl,ht⟩:=hd;obtain ⟨c1,c2⟩:=G6 hcm;have hfi:=hf.heads c c1;have hj:j<4:=by rw [←e];exact hfi.rel
   exact ⟨by rw [←ht,AZ,hfi.len,e,Pj hj],hj,by rw [←e];exact c2⟩
  have hall:∀ t j q,j<4→C1 (CD (BY z cs) vals b) (nv (CD (BY z cs) vals b) 4 rk0 t) j q→(j,q)∈L4 z:=fun t j q hj hd=>by
   obtain ⟨e1,_,e3⟩:=hlen _ j q hd;refine Mk hj e1 ?_;by_cases hq:nv (CD (BY z cs) vals b) 4 rk0 t j q=none
   ·exact SE hf hst hz hh hs h0 (t+1) j hj (by omega) q (by rw [hn,Lh hj hq hd];rfl)
   ·exact SE hf hst hz hh hs h0 t j hj (by omega) q (by rw [hn];exact Option.isSome_iff_ne_none.2 hq)
  have hsoon:=UJ hall (r - 1) hi hr2 hr3;rw [Nat.sub_add_cancel hr1] at hsoon;have hU:=YW h4;have hle:XG (L4 z) rk0≤(L4 z).length:=BX _ _;refine Nat.lt_of_not_le fun hge=>?_;have hfull:=Zn (rk:=rk0) (U:=L4 z) (by omega);have hnone:=Zm (U:=L4 z) (rk:=nv (CD (BY z cs) vals b) 4 rk0 r) (by omega);have hallb:∀ j,j<4→vals.getD j 0=b:=fun j hj=>by
   refine Decidable.byContradiction fun hne=>?_;have hm:(j,List.replicate (relK j) 0)∈L4 z:=Mk hj Bf (fun x hx=>by rw [(List.mem_replicate.1 hx).2];omega);have hoff:=WO (m:=BY z cs) (vals:=vals) (lay:=b) (n:=4) (rk:=rk0) r hne;have q1:=hnone _ hm;dsimp only at q1;rw [hoff] at q1;exact q1 (hfull _ hm)
  have hno:∀ j q,¬ C1 (CD (BY z cs) vals b) rk0 j q:=fun j q hd=>by
   obtain ⟨c,hcm,e,ν,hν,hl,ht⟩:=hd;obtain ⟨c1,c2⟩:=G6 hcm;have hp:0<c.lits.length:=by
    unfold CD at hcm;have:=(Ap.1 (Ap.1 hcm).1).2;simpa [C0] using this
   obtain ⟨a,ha⟩:=List.exists_mem_of_length_pos hp;have hfa:=hf.lits c c1 a ha;have ha4:a.1.rel<4:=hfa.rel;have hla:=hl a ha;unfold Gb at hla;split at hla
   ·rename_i hneg;have q2:max (vals.getD c.head.rel 0) (vals.getD a.1.rel 0+(if a.2 then 1 else 0))=vals.getD c.head.rel 0:=hst c c1 a ha;rw [hneg,hallb _ ha4,c2,if_pos rfl] at q2;have:=Dv b (b+1);omega
   ·have hm:(a.1.rel,a.1.terms.map (Jx ν))∈L4 z:=Mk ha4 (by rw [AZ,hfa.len,Pj ha4]) (h0 _ ha4 (by rw [hallb _ ha4];exact AS _) _ hla);have:=hfull _ hm;dsimp only at this;rw [this] at hla;cases hla
  have hst0:=KP (cs:=CD (BY z cs) vals b) (n:=4) (rk0:=rk0) (T:=0) (fun j q _ hq=>hno j q hq.1) (r - 1);rw [Ad] at hst0;rw [hst0] at hr3;exact hno _ _ hr3
def tlC (s:ByteArray) (l:List Nat):ByteArray:=l.foldl (fun (s:ByteArray) (x:Nat)=>s++⟨#[32]⟩++LF (x:Int)) s
def tlT (k:Nat) (s:ByteArray) (l:List Nat) (r:Nat):ByteArray:=tlC (s++IB k) l++⟨#[32,97,116,32]⟩++LF (r:Int)++⟨#[59,32]⟩
def mO (rk:Nat→List Nat→Option Nat) (k:Nat) (s:ByteArray) (ls:List (List Nat)):ByteArray:=ls.foldl (fun s l=>tlT k s l ((rk k l).getD 0)) s
def fW (rk:Nat→List Nat→Option Nat) (k:Nat):List (List Nat):=(C7 (relK k)).filter (fun l=>(rk k l).isSome)
def Vb (rk:Nat→List Nat→Option Nat):Nat→ByteArray
 | 0=>⟨#[]⟩
 | k+1=>mO rk k (Vb rk k) (fW rk k)
theorem Tj {rk rk':Nat→List Nat→Option Nat} (h:∀ i,i<4→rk i=rk' i):∀ k,k≤4→Vb rk k=Vb rk' k
 | 0,_=>rfl
 | k+1,hk=>by
  have e:=h k (by omega);rw [Vb,Vb,Tj h k (by omega)];unfold mO fW;rw [e]
theorem aC (s:ByteArray) (l:List Nat) {j x:Nat} (h:l[j]?=some x):tlC s (l.take (j+1))=tlC s (l.take j)++⟨#[32]⟩++LF (x:Int):=by
 unfold tlC;rw [An,h,List.foldl_append];rfl
theorem aB (rk:Nat→List Nat→Option Nat) (k:Nat) (s:ByteArray) (ls:List (List Nat)) {j:Nat} {x:List Nat} (h:ls[j]?=some x):mO rk k s (ls.take (j+1))=tlT k (mO rk k s (ls.take j)) x ((rk k x).getD 0):=by
 unfold mO;rw [An,h,List.foldl_append];rfl
end
end Go.Proofs.YtgjomknpjigkhaaGreatDoor
