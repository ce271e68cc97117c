import Derived.Test.YtgjomknpjigkhaaGreatDoorZ33
namespace Go.Proofs.YtgjomknpjigkhaaGreatDoor
set_option maxRecDepth 100000
set_option maxHeartbeats 4000000
section
open Go.RowKit
theorem Xg (n:Nat) (rk:Nat→List Nat→Option Nat):∀ t,nv [] n rk t=rk
 | 0=>rfl
 | t+1=>by
  funext i l
  simp only [nv];rw [if_neg]
  ·rw [Xg n rk t]
  ·rintro ⟨_,_,c,hc,_⟩;cases hc
noncomputable def LB (n:Nat) (Fs:Nat→List Nat→Prop):Nat→List Nat→Option Nat:=fun i=>if i<n then Fk (fun _=>none) (Fs i) 0 else fun _=>none
theorem bQ {cs:List Ac} {n:Nat} {rk0:Nat→List Nat→Option Nat}:∀ (t:Nat) {i:Nat} (l:List Nat),n≤i→nv cs n rk0 t i l=rk0 i l
 | 0,_,_,_=>rfl
 | t+1,i,l,h=>by
  simp only [nv];rw [if_neg (fun q=>by have:=q.1;omega)];exact bQ t l h
theorem Xj {cs:List Ac} {n:Nat} {rk0:Nat→List Nat→Option Nat} {i:Nat} {l:List Nat} {r:Nat} (h:rk0 i l=some r):∀ t,nv cs n rk0 t i l=some r
 | 0=>h
 | t+1=>by
  have ih:=Xj (cs:=cs) (n:=n) h t;rw [JD (by rw [ih];simp),ih]
theorem JF {m:Mean} {vals:List Nat} (hv:∀ i,vals.getD i 0=0) {Fs:Nat→List Nat→Prop} {rk0:Nat→List Nat→Option Nat} (h0:∀ i l,m.rels.length≤i→rk0 i l=none):∀ (b:Nat) {rk:Nat→List Nat→Option Nat},Ji m vals Fs rk0 (b+1) rk→∃ T,∀ t,T≤t→rk=nv (m.clauses.filter D7) m.rels.length (LB m.rels.length Fs) t
 | 0,rk,h=>by
  cases h with
  | step h1 h2=>
   cases h1 with
   | refl=>
    obtain ⟨T,hT⟩:=h2;refine ⟨T,fun t ht=>?_⟩;rw [hT t ht];have e1:Bx m vals 0=m.clauses.filter D7:=by
     unfold Bx;rw [List.filter_eq_self];intro c _;rw [hv];rfl
    have e2:Dh m.rels.length vals Fs rk0 0=LB m.rels.length Fs:=by
     funext i
     unfold Dh LB;rw [hv];by_cases hi:i<m.rels.length
     ·simp [hi]
     ·simp only [hi,false_and,if_false];funext l
      exact h0 i l (by omega)
    rw [e1,e2]
 | b+1,rk,h=>by
  cases h with
  | @step _ rk1 _ h1 h2=>
   obtain ⟨T,hT⟩:=h2;have e1:Bx m vals (b+1)=[]:=by
    unfold Bx;rw [List.filter_eq_nil_iff];intro c _;rw [hv];simp
   have e2:Dh m.rels.length vals Fs rk1 (b+1)=rk1:=by
    funext i
    unfold Dh;rw [hv,if_neg (by omega)]
   have:=hT T (AQ _);rw [e1,e2,Xg] at this;subst this;exact JF hv h0 b h1
theorem PS {n:Nat} {Fs:Nat→List Nat→Prop} (i:Nat) (l:List Nat) (r:Nat) (h:LB n Fs i l=some r):r=0:=by
 unfold LB at h;split at h
 ·unfold Fk at h;split at h
  ·cases h;rfl
  ·cases h
 ·cases h
theorem PT {n:Nat} {Fs:Nat→List Nat→Prop} {i:Nat} {l:List Nat} (hi:i<n) (h:Fs i l):LB n Fs i l=some 0:=by
 unfold LB;rw [if_pos hi];unfold Fk;rw [if_pos h]
theorem grow {m:Mean} {vals:List Nat} (hb:Sr m.clauses) (hv:∀ i,vals.getD i 0=0) (hR:0<m.rels.length) {Fs Fs':Nat→List Nat→Prop} (hF:∀ i l,Fs i l→Fs' i l) {rk rk':Nat→List Nat→Option Nat} (h1:Ji m vals Fs (fun _ _=>none) m.rels.length rk) (h2:Ji m vals Fs' rk m.rels.length rk'):(∀ i l r,rk i l=some r→∃ r',r'≤r∧rk' i l=some r')∧∀ i l,i<m.rels.length→Fs' i l→rk' i l=some 0:=by
 obtain ⟨b,eb⟩:∃ b,m.rels.length=b+1:=⟨m.rels.length - 1,by omega⟩;have hb':Sr (m.clauses.filter D7):=fun c hc=>hb c (Ai.1 hc).1;have h1':=h1;have h2':=h2;rw [eb] at h1' h2';obtain ⟨T1,t1⟩:=JF hv (fun _ _ _=>rfl) b h1';have hout:∀ i l,m.rels.length≤i→rk i l=none:=fun i l hi=>by
  rw [t1 T1 (AQ _),bQ T1 l hi];unfold LB;rw [if_neg (by omega)]
 obtain ⟨T2,t2⟩:=JF hv hout b h2';have e1:=t1 (max T1 T2) (Nat.le_max_left _ _);have e2:=t2 (max T1 T2) (Dv _ _);rw [e1,e2];refine ⟨fun i l r hr=>?_,fun i l hi hf=>Xj (PT hi hf) _⟩;refine Xh hb' PS PS (fun i l hs=>?_) _ i l r hr;by_cases hi:i<m.rels.length
 ·by_cases hf:Fs i l
  ·rw [PT hi (hF i l hf)];rfl
  ·unfold LB Fk at hs;simp [hi,hf] at hs
 ·unfold LB at hs;simp [hi] at hs
inductive VI (m:Mean) (vals:List Nat) (Fs:Nat→List Nat→Prop) (a:Nat) (rk:Nat→List Nat→Option Nat):Nat→(Nat→List Nat→Option Nat)→Prop
 | refl:VI m vals Fs a rk a rk
 | step {b:Nat} {rk1 rk2:Nat→List Nat→Option Nat}:VI m vals Fs a rk b rk1→XE m vals Fs b rk1 rk2→VI m vals Fs a rk (b+1) rk2
theorem Ji.from0 {m:Mean} {vals:List Nat} {Fs:Nat→List Nat→Prop} {rk rk':Nat→List Nat→Option Nat} {b:Nat} (h:Ji m vals Fs rk b rk'):VI m vals Fs 0 rk b rk':=by
 induction h with
 | refl=>exact .refl
 | step _ h2 ih=>exact .step ih h2
section
variable {m:Mean} {vals:List Nat} (hf:Dt m) (hst:Dr layG m.clauses vals)
theorem Gx {lay:Nat} {c:Ac} (h:c∈Bx m vals lay):c∈m.clauses∧vals.getD c.head.rel 0=lay:=by
 unfold Bx at h;obtain ⟨h1,h2⟩:=Ai.1 h;exact ⟨(Ai.1 h1).1,by simpa using h2⟩
theorem V5 {lay n:Nat} {rk:Nat→List Nat→Option Nat}:∀ (t:Nat) {i:Nat},vals.getD i 0≠lay→nv (Bx m vals lay) n rk t i=rk i
 | 0,_,_=>rfl
 | t+1,i,h=>by
  funext l
  simp only [nv]
  rw [if_neg (fun q=>by
   obtain ⟨c,hc,e,_⟩:=q.2.2;have:=(Gx hc).2;rw [e] at this
   exact h this),V5 t h]
include hf hst in
theorem J2 {lay:Nat} {rk rk':Nat→List Nat→Option Nat} (h:∀ i,i<m.rels.length→vals.getD i 0≤lay→rk i=rk' i):∀ (t:Nat) (i:Nat),i<m.rels.length→vals.getD i 0≤lay→nv (Bx m vals lay) m.rels.length rk t i=nv (Bx m vals lay) m.rels.length rk' t i
 | 0,i,hi,hv=>h i hi hv
 | t+1,i,hi,hv=>by
  have ih:=J2 h t;have hd:∀ l,derives (Bx m vals lay) (nv (Bx m vals lay) m.rels.length rk t) i l↔derives (Bx m vals lay) (nv (Bx m vals lay) m.rels.length rk' t) i l:=fun l=>by
   have key:∀ c∈Bx m vals lay,∀ a∈c.lits,∀ ν,FY (nv (Bx m vals lay) m.rels.length rk t) a ν↔FY (nv (Bx m vals lay) m.rels.length rk' t) a ν:=fun c hc a ha ν=>by
    obtain ⟨h1,h2⟩:=Gx hc;have q:max (vals.getD c.head.rel 0) (vals.getD a.1.rel 0+(if a.2 then 1 else 0))=vals.getD c.head.rel 0:=hst c h1 a ha;have hle:vals.getD a.1.rel 0≤lay:=by rw [h2] at q;have:=Dv lay (vals.getD a.1.rel 0+(if a.2 then 1 else 0));omega
    unfold FY;rw [ih a.1.rel (hf.lits c h1 a ha).rel hle]
   constructor
   ·rintro ⟨c,hc,e,ν,hν,hl,ht⟩;exact ⟨c,hc,e,ν,hν,fun a ha=>(key c hc a ha ν).1 (hl a ha),ht⟩
   ·rintro ⟨c,hc,e,ν,hν,hl,ht⟩;exact ⟨c,hc,e,ν,hν,fun a ha=>(key c hc a ha ν).2 (hl a ha),ht⟩
  funext l
  simp only [nv];rw [ih i hi hv];by_cases q:i<m.rels.length∧nv (Bx m vals lay) m.rels.length rk' t i l=none∧derives (Bx m vals lay) (nv (Bx m vals lay) m.rels.length rk' t) i l
  ·rw [if_pos q,if_pos ⟨q.1,q.2.1,(hd l).2 q.2.2⟩]
  ·rw [if_neg q,if_neg (fun p=>q ⟨p.1,p.2.1,(hd l).1 p.2.2⟩)]
theorem cO {Fs:Nat→List Nat→Prop} {b:Nat} {rk rk':Nat→List Nat→Option Nat} (h:XE m vals Fs b rk rk') {i:Nat} (hi:vals.getD i 0≠b):rk' i=rk i:=by
 obtain ⟨T,hT⟩:=h;rw [hT T (AQ _),V5 T hi];unfold Dh;rw [if_neg (fun q=>hi q.2)]
def MX (m:Mean) (vals:List Nat) (Fs:Nat→List Nat→Prop) (rk:Nat→List Nat→Option Nat):Prop:=∀ b,b<m.rels.length→∃ T,∀ t,T≤t→∀ i,i<m.rels.length→vals.getD i 0≤b→nv (Bx m vals b) m.rels.length (Dh m.rels.length vals Fs rk b) t i=rk i
theorem H7 {Fs Fs':Nat→List Nat→Prop} {rk rk':Nat→List Nat→Option Nat} {b:Nat} (hF:∀ i,i<m.rels.length→vals.getD i 0=b→Fs i=Fs' i) (h:∀ i,i<m.rels.length→vals.getD i 0<b→rk i=rk' i):∀ i,i<m.rels.length→vals.getD i 0≤b→Dh m.rels.length vals Fs rk b i=Dh m.rels.length vals Fs' rk' b i:=fun i hi hv=>by
 unfold Dh;by_cases e:vals.getD i 0=b
 ·rw [if_pos ⟨hi,e⟩,if_pos ⟨hi,e⟩,hF i hi e]
 ·rw [if_neg (fun q=>e q.2),if_neg (fun q=>e q.2)];exact h i hi (by omega)
include hf hst in
theorem jH {Fs:Nat→List Nat→Prop} {rk rk':Nat→List Nat→Option Nat} (h:MX m vals Fs rk) (h':MX m vals Fs rk') (hlt:∀ i,i<m.rels.length→vals.getD i 0<m.rels.length):∀ i,i<m.rels.length→rk i=rk' i:=by
 have key:∀ b,b≤m.rels.length→∀ i,i<m.rels.length→vals.getD i 0<b→rk i=rk' i:=fun b=>by
  induction b with
  | zero=>intro _ i _ hv;omega
  | succ b ih=>
   intro hb i hi hv;obtain ⟨T,hT⟩:=h b (by omega);obtain ⟨T',hT'⟩:=h' b (by omega);rw [←hT (max T T') (Nat.le_max_left _ _) i hi (by omega),←hT' (max T T') (Dv _ _) i hi (by omega)];exact J2 hf hst (H7 (fun _ _ _=>rfl) (ih (by omega))) _ i hi (by omega)
 exact fun i hi=>key m.rels.length (AQ _) i hi (hlt i hi)
include hf hst in
theorem dK {Fs Fs':Nat→List Nat→Prop} {rk rk':Nat→List Nat→Option Nat} {a:Nat} (h:∀ b,b<a→b<m.rels.length→∃ T,∀ t,T≤t→∀ i,i<m.rels.length→vals.getD i 0≤b→nv (Bx m vals b) m.rels.length (Dh m.rels.length vals Fs rk b) t i=rk i) (hF:∀ i,i<m.rels.length→vals.getD i 0<a→Fs i=Fs' i) {n:Nat} (hs:VI m vals Fs' a rk n rk'):∀ b,b<n→b<m.rels.length→∃ T,∀ t,T≤t→∀ i,i<m.rels.length→vals.getD i 0≤b→nv (Bx m vals b) m.rels.length (Dh m.rels.length vals Fs' rk' b) t i=rk' i:=by
 induction hs with
 | refl=>
  intro b hb hn;obtain ⟨T,hT⟩:=h b hb hn;refine ⟨T,fun t ht i hi hv=>?_⟩;rw [←J2 hf hst (H7 (fun j hj e=>hF j hj (by omega)) (fun _ _ _=>rfl)) t i hi hv];exact hT t ht i hi hv
 | @step c rk1 rk2 h1 h2 ih=>
  intro b hb hn;have keep:∀ i,vals.getD i 0<c→rk2 i=rk1 i:=fun i hi=>cO h2 (by omega);by_cases hbc:b<c
  ·obtain ⟨T,hT⟩:=ih b hbc hn;refine ⟨T,fun t ht i hi hv=>?_⟩;rw [keep i (by omega),←hT t ht i hi hv];exact J2 hf hst (H7 (fun _ _ _=>rfl) (fun j hj hjv=>keep j (by omega))) t i hi hv
  ·have e:b=c:=(by omega);subst e;obtain ⟨T,hT⟩:=h2;refine ⟨T,fun t ht i hi hv=>?_⟩;rw [hT t ht];refine J2 hf hst (H7 (fun _ _ _=>rfl) (fun j hj hjv=>?_)) t i hi hv;rw [←hT t ht];exact keep j hjv
include hf hst in
theorem ZQ {Fs:Nat→List Nat→Prop} {rk:Nat→List Nat→Option Nat} (h:Ji m vals Fs (fun _ _=>none) m.rels.length rk):MX m vals Fs rk:=fun b hb=>dK hf hst (Fs:=Fs) (fun _ q _=>absurd q (Nat.not_lt_zero _)) (fun _ _ _=>rfl) h.from0 b hb hb
end
theorem Lt {m:Mean} {z:Int} (hz:∀ d,m.size d≤z):∀ (ts:List Tn) (ds:List Nat) {sc sc':Ba} {xs:List BN},D9 m sc ts ds=.ok (xs,sc')→∀ x∈xs,x.isVar=false→x.num<z
 | [],_,_,_,xs,h,x,hx,_=>by simp [D9] at h;obtain ⟨rfl,_⟩:=h;cases hx
 | _ :: _,[],_,_,xs,h,x,hx,_=>by simp [D9] at h;obtain ⟨rfl,_⟩:=h;cases hx
 | t :: ts,d :: ds,sc,sc',xs,h,x,hx,hv=>by
  unfold D9 at h;split at h
  ·cases h
  rename_i y sc1 hy;split at h
  ·cases h
  rename_i ys sc2 hys;cases h;rcases AG.1 hx with rfl | hx
  ·unfold Gu at hy;split at hy
   ·split at hy
    ·split at hy
     ·cases hy
     ·cases hy;cases hv
    ·split at hy
     ·cases hy
     ·cases hy;cases hv
   ·split at hy
    ·cases hy
    ·cases hy;have:=hz d;dsimp only;omega
  ·exact Lt hz ts ds hys x hx hv
theorem Ww {z:Nat} {cs:List Ac} (d:Nat):(BG z cs).size d≤(z:Int):=by
 match d with
 | 0=>exact Cl _
 | d+1=>show (0:Int)≤z;omega
def Ln (z:Nat) (cs:List Ac):Prop:=∀ c∈cs,∀ t∈c.head.terms,t.isVar=false→t.num<z
theorem PK {z:Nat}:∀ (is:List CM),(∀ i∈is,∃ h ls,i=.clause h ls)→∀ {cs:List Ac} {m:Mean},Bh (BG z cs) is=.ok m→Ln z cs→Ln z m.clauses
 | [],_,cs,m,h,hb=>by simp [Bh] at h;subst h;exact hb
 | i :: is,hi,cs,m,h,hb=>by
  obtain ⟨hd,ls,rfl⟩:=hi i (by simp);unfold Bh D0 at h;dsimp only at h;unfold addClause at h;split at h
  ·cases h
  rename_i m1 h1;split at h1
  ·cases h1
  split at h1
  ·cases h1
  rename_i x sc hx;split at h1
  ·cases h1
  rename_i hr;cases h1;refine PK is (fun j hj=>hi j (by simp [hj])) (cs:=cs++_) h ?_;intro c hc t ht hv;rcases AC.1 hc with hc | hc
  ·exact hb c hc t ht hv
  ·simp only [AF] at hc;subst hc;unfold FR at hx;split at hx
   ·cases hx
   split at hx
   ·cases hx
   split at hx
   ·cases hx
   rename_i hts;cases hx;exact Lt Ww _ _ hts t ht hv
theorem Tm {s:ByteArray} {toks:List Tn} {m:Mean} (h:Df s=.ok (toks,m)):∀ c∈m.clauses,DQ c=false:=by
 unfold Df at h;split at h
 ·cases h
 split at h
 ·cases h
 split at h
 ·cases h
 split at h
 ·cases h
 split at h
 ·cases h
 rename_i hl;cases h;unfold GI at hl;split at hl
 ·cases hl
 rename_i hf;exact Na hf
theorem gM {c:Ac} (hs:DQ c=false) {t:BN} (ht:t∈c.head.terms) (hv:t.isVar=true):∃ a∈c.lits,a.2=false∧∃ u∈a.1.terms,u.isVar=true∧u.num=t.num:=by
 unfold DQ at hs;rw [List.any_eq_false] at hs
 have h1:=hs t.num (by
  unfold KK FO
  exact AC.2 (.inl (AM.2 ⟨t,Ai.2 ⟨ht,hv⟩,rfl⟩)))
 simp only [Dm,decide_eq_false_iff_not,Decidable.not_not] at h1;unfold JO FO at h1;obtain ⟨a,ha,hn⟩:=Ap.1 h1;obtain ⟨ha1,ha2⟩:=Ai.1 ha;obtain ⟨u,hu,e⟩:=AM.1 hn;obtain ⟨hu1,hu2⟩:=Ai.1 hu;exact ⟨a,ha1,by simpa using ha2,u,hu1,hu2,e⟩
theorem lS {z:Nat} {cs:List Ac} {k:Nat} (hk:k<4) {l:List Nat} (hl:l.length=relK k) (hx:∀ x∈l,x<z):Q4 (BG z cs) k l:=by
 have hc:∃ nm,(BG z cs).rels[k]?=some (nm,List.replicate (relK k) 0):=by
  have:k=0∨k=1∨k=2∨k=3:=by omega
  rcases this with rfl | rfl | rfl | rfl <;> exact ⟨_,rfl⟩
 obtain ⟨nm,hc⟩:=hc;refine ⟨⟨nm,_,hc,by rw [BY];exact hl,fun p x d hp hd=>?_⟩⟩;have hd0:d=0:=by
  have:=AE hd;exact (List.mem_replicate.1 this).2
 subst hd0;show (x:Int)<(z:Int);have:=hx x (AE hp);omega
theorem Vv {z:Nat} {cs:List Ac} {k:Nat} (hk:k<4):(BG z cs).rels[k]?=some (Ij k,List.replicate (relK k) 0)∧Dp ((BG z cs).rels.map Prod.fst) (Ij k)=some k:=by
 have:k=0∨k=1∨k=2∨k=3:=by omega
 rcases this with rfl | rfl | rfl | rfl <;> exact ⟨rfl,by show Dp (QZ.map Prod.fst) _=_;decide⟩
def dQ (l k:Nat) (bs:List Nat):Ac:=⟨⟨k,bs.map cT⟩,[],l⟩
def CE (z:Nat):List Ch→Nat→List Ac
 | [],_=>[]
 | f :: fs,l=>dQ l (kOf f.rel) (DG z f.L (kOf f.rel)) :: CE z fs (l+1)
theorem OM {m:Mean} {z l:Nat} (hz:∀ d,d=0→m.size d=(z:Int)):∀ (bs:List Nat),(∀ b∈bs,b<z)→z≤8→D9 m [] (bs.map (fun a=>(⟨.int (GZ a),l⟩:Tn))) (List.replicate bs.length 0)=.ok (bs.map cT,[])
 | [],_,_=>rfl
 | b :: bs,h,h8=>by
  have hb:=h b (by simp);have t1:Gu m [] ⟨.int (GZ b),l⟩ 0=.ok (cT b,[]):=by
   show (if m.size 0≤Cp (.int (GZ b)) then (Except.error (9,l):Except I0 (BN×Ba)) else .ok (⟨false,Cp (.int (GZ b))⟩,[]))=_;rw [T3 (by omega),hz 0 rfl,if_neg (by omega)];rfl
  simp only [Au,AU,List.replicate_succ,D9,t1];rw [OM hz bs (fun x hx=>h x (by simp [hx])) h8]
theorem PA {z:Nat} (h8:z≤8) {cs:List Ac} {l k:Nat} (hk:k<4) {bs:List Nat} (hl:bs.length=relK k) (hb:∀ b∈bs,b<z):D0 (BG z cs) (dO l k bs)=if cs.length=52 then .error (6,l) else .ok (BG z (cs++[dQ l k bs])):=by
 show addClause (BG z cs) (MP l k (bs.map (fun a=>.int (GZ a)))) []=_;unfold addClause;by_cases h52:cs.length=52
 ·rw [if_pos (show (BG z cs).clauses.length=52 from h52),if_pos h52];rfl
 ·rw [if_neg (show ¬ (BG z cs).clauses.length=52 from h52),if_neg h52];have hr:(BG z cs).rel (ba (IQ k))=some k:=by
   have:k=0∨k=1∨k=2∨k=3:=(by omega);rcases this with rfl | rfl | rfl | rfl <;> (show CP QZ _=_;decide)
  have hc:(BG z cs).cols k=List.replicate (relK k) 0:=by
   have:k=0∨k=1∨k=2∨k=3:=(by omega);rcases this with rfl | rfl | rfl | rfl <;> rfl
  have ha:FR (BG z cs) [] (MP l k (bs.map (fun a=>.int (GZ a))))=.ok (⟨k,bs.map cT⟩,[]):=by
   unfold FR;rw [show (BG z cs).rel (BB (MP l k (bs.map (fun a=>.int (GZ a)))).name.g)=some k from hr];dsimp only;rw [hc,if_neg (by rw [BY,←hl];simp [MP])];rw [←hl];have:=OM (m:=BG z cs) (z:=z) (l:=l) (fun d e=>by subst e;rfl) bs hb h8;rw [show (MP l k (bs.map (fun a=>Sg.int (GZ a)))).terms=bs.map (fun a=>(⟨.int (GZ a),l⟩:Tn)) by simp [MP],this]
  rw [ha];rfl
theorem Nc {z:Nat} (h1:1≤z) (h8:z≤8):∀ (fs:List Ch) (l:Nat) (cs:List Ac) {m:Mean},Bh (BG z cs) (FL z fs l)=.ok m→m=BG z (cs++CE z fs l)
 | [],l,cs,m,h=>by
  have:BG z cs=m:=by simpa [FL,Bh] using h
  rw [←this];simp [CE]
 | f :: fs,l,cs,m,h=>by
  simp only [FL,Bh] at h
  rw [PA h8 (IU f.rel) (by simp [DG]) (fun b hb=>by
   obtain ⟨i,_,rfl⟩:=AM.1 hb
   exact KI h1 f.L i)] at h
  split at h
  ·rename_i he;split at he
   ·cases h
   ·cases he
  ·rename_i m1 he;split at he
   ·cases he
   ·cases he;have:=Nc h1 h8 fs (l+1) _ h;rw [this,CE,Ab];rfl
theorem Jx {z:Nat} {nm:List UInt8} {back:Bool}:∀ (rs:List C0) (l:Nat) {cs:List Ac} {m:Mean},Bh (BG z cs) (EB z nm back rs l)=.ok m→(∀ c∈cs,c.lits≠[])→∃ rc,m=BG z rc∧∀ c∈rc,c.lits≠[]
 | [],l,cs,m,h,hc=>⟨cs,by simpa [EB,Bh,eq_comm] using h,hc⟩
 | r :: rs,l,cs,m,h,hc=>by
  rw [EB] at h;split at h
  ·exact Jx rs l h hc
  ·rename_i hb;unfold Bh D0 XY at h;dsimp only at h;unfold addClause at h;split at h
   ·cases h
   rename_i m1 h1;split at h1
   ·cases h1
   split at h1
   ·cases h1
   split at h1
   ·cases h1
   rename_i ys sc2 hr;cases h1;refine Jx rs (l+1) (cs:=cs++_) h (fun c hcm=>?_);rcases AC.1 hcm with hcm | hcm
   ·exact hc c hcm
   ·simp only [AF] at hcm;subst hcm;dsimp only;intro e;subst e;have hne:(D5 back r).map (P4 z nm l)≠[]:=by
     intro e;have h0:D5 back r=[]:=List.map_eq_nil_iff.1 e;have:r.body.take 4=[]:=by
      unfold D5 at h0;split at h0
      ·exact List.reverse_eq_nil_iff.1 h0
      ·exact h0
     cases hq:r.body with
     | nil=>rw [hq] at hb;simp at hb
     | cons x xs=>rw [hq] at this;simp at this
    cases hq:(D5 back r).map (P4 z nm l) with
    | nil=>exact hne hq
    | cons x xs=>
     rw [hq] at hr;unfold Eg at hr;split at hr
     ·cases hr
     split at hr
     ·cases hr
     split at hr
     ·cases hr
     cases hr
theorem Yn {z:Nat} (h1:1≤z) (h8:z≤8) {nm:List UInt8} (hn:M4 nm) {back:Bool} {rs:List C0} {fs:List Ch} {toks:List Tn} {m:Mean} (hR:Df (ba (Ae (CK z nm back rs fs)))=.ok (toks,m)):∃ rc,Bh (BG z []) (EB z nm back rs 2)=.ok (BG z rc)∧(∀ c∈rc,c.lits≠[])∧m=BG z (rc++CE z fs (C4 (rs.flatMap (EN z nm back)) 2)):=by
 have h:=Qb h1 h8 hn hR;unfold GA at h;rw [Ab,GD,J9 h1 h8] at h;dsimp only at h;rw [GD] at h;cases hr:Bh (BG z []) (EB z nm back rs 2) with
 | error f=>rw [hr] at h;cases h
 | ok m1=>
  rw [hr] at h;dsimp only at h;obtain ⟨rc,e,hc⟩:=Jx rs 2 hr (fun c hc=>by cases hc);subst e;exact ⟨rc,rfl,hc,Nc h1 h8 fs _ rc h⟩
theorem JN {z:Nat}:∀ (fs:List Ch) (l:Nat) {c:Ac},c∈CE z fs l→c.lits=[]∧∃ f∈fs,c.head=⟨kOf f.rel,(DG z f.L (kOf f.rel)).map cT⟩
 | f :: fs,l,c,h=>by
  rw [CE] at h;rcases AG.1 h with rfl | h
  ·exact ⟨rfl,f,by simp,rfl⟩
  ·obtain ⟨a,g,hg,e⟩:=JN fs (l+1) h;exact ⟨a,g,by simp [hg],e⟩
theorem Lc {z:Nat}:∀ (fs:List Ch) (l:Nat) {f:Ch},f∈fs→∃ c∈CE z fs l,c.lits=[]∧c.head=⟨kOf f.rel,(DG z f.L (kOf f.rel)).map cT⟩
 | g :: fs,l,f,h=>by
  rw [CE];rcases AG.1 h with rfl | h
  ·exact ⟨_,C2,rfl,rfl⟩
  ·obtain ⟨c,hc,e⟩:=Lc fs (l+1) h;exact ⟨c,by simp [hc],e⟩
theorem eD (ν bs:List Nat):(bs.map cT).map (Ia ν)=bs:=by
 rw [CZ];conv=>rhs;rw [←List.map_id bs]
 apply Bn;intro b _;simp [cT,Ia]
def Zq (z:Nat) (fs:List Ch) (i:Nat) (l:List Nat):Prop:=∃ f∈fs,kOf f.rel=i∧DG z f.L (kOf f.rel)=l
theorem SQ {z:Nat} {rc:List Ac} (hc:∀ c∈rc,c.lits≠[]) (fs:List Ch) (l0:Nat):Ew (rc++CE z fs l0)=Zq z fs:=by
 funext i l
 apply propext;constructor
 ·rintro ⟨c,hcm,hl,e,ν,hν,ht⟩;rcases AC.1 hcm with hcm | hcm
  ·exact absurd hl (hc c hcm)
  ·obtain ⟨_,f,hf,eh⟩:=JN fs l0 hcm;rw [eh] at e ht;dsimp only at e ht;rw [eD] at ht;exact ⟨f,hf,e,ht⟩
 ·rintro ⟨f,hf,e,hl⟩;obtain ⟨c,hcm,h1,h2⟩:=Lc (z:=z) fs l0 hf;refine ⟨c,AC.2 (.inr hcm),h1,by rw [h2];exact e,[0,0,0,0],by decide,?_⟩;rw [h2];dsimp only;rw [eD];exact hl
def MZ (x:Int):Nat:=(LP x 4).toNat
theorem VR (x:Int):MZ x<4:=IU x
def Ei (a:Bu):List Int:=(List.range (relK (kOf a.rel))).map (fun i=>a.L.getD i 0)
theorem aZ (a:Bu):(Ei a).length=relK (kOf a.rel):=by simp [Ei]
theorem Va (z:Nat) (nm:List UInt8) (a:Bu):EE z nm a.L (kOf a.rel)=(Ei a).map (Er z nm):=by
 unfold EE Ei;rw [CZ];rfl
def idxV (vs:List Nat) (v:Nat):Nat:=vs.findIdx (fun u=>decide (u=v))
def Jt (z:Nat) (vs:List Nat) (x:Int):BN:=if x<0 then ⟨true,(idxV vs (MZ x):Int)⟩ else ⟨false,((LP x z).toNat:Int)⟩
def eO (z:Nat) (vs:List Nat) (a:Bu):BW:=⟨kOf a.rel,(Ei a).map (Jt z vs)⟩
def fR (z:Nat) (vs:List Nat) (l:Nat) (h:Bu) (ls:List Bu):Ac:=⟨eO z vs h,ls.map (fun a=>(eO z vs a,a.no)),l⟩
def N2 (nm:List UInt8) (vs:List Nat):Ba:=vs.map (fun v=>(ba [nm.getD v 0],0))
def Gw (vs:List Nat) (x:Int):List Nat:=if x<0 then (if MZ x∈vs then vs else vs++[MZ x]) else vs
def addV (vs:List Nat) (xs:List Int):List Nat:=xs.foldl Gw vs
def addL (vs:List Nat) (ls:List Bu):List Nat:=ls.foldl (fun vs a=>addV vs (Ei a)) vs
def G9 (vs:List Nat):Prop:=vs.Nodup∧∀ v∈vs,v<4
theorem G9.len {vs:List Nat} (h:G9 vs):vs.length≤4:=by
 have:∀ (l l':List Nat),l.Nodup→(∀ x∈l,x∈l')→l.length≤l'.length:=fun l=>by
  induction l with
  | nil=>exact fun _ _ _=>Nat.zero_le _
  | cons a l ih=>
   intro l' hn hs;obtain ⟨h1,h2⟩:=DH.1 hn;have ha:=hs a (by simp);have:=ih (l'.erase a) h2 (fun x hx=>(List.mem_erase_of_ne (fun e=>h1 (by rw [←e];exact hx))).2 (hs x (by simp [hx])));rw [List.length_erase_of_mem ha] at this;have:=Ck ha;rw [AU];omega
 have:=this vs (List.range 4) h.1 (fun x hx=>B9.2 (h.2 x hx));simpa using this
theorem G9.snoc {vs:List Nat} (h:G9 vs) {v:Nat} (hv:v<4) (hn:v∉vs):G9 (vs++[v]):=by
 refine ⟨?_,fun u hu=>?_⟩
 ·rw [BJ];exact ⟨h.1,by simp,fun a ha b hb e=>by simp only [AF] at hb;subst hb;subst e;exact hn ha⟩
 ·rcases AC.1 hu with hu | hu
  ·exact h.2 u hu
  ·simp only [AF] at hu;subst hu;exact hv
theorem G9.step {vs:List Nat} (h:G9 vs) (x:Int):G9 (Gw vs x):=by
 unfold Gw;split
 ·split
  ·exact h
  ·rename_i hn;exact h.snoc (VR x) hn
 ·exact h
theorem G9.addV {vs:List Nat} (h:G9 vs):∀ (xs:List Int),G9 (addV vs xs):=fun xs=>by
 induction xs generalizing vs with
 | nil=>exact h
 | cons x xs ih=>exact ih (h.step x)
theorem G9.addL {vs:List Nat} (h:G9 vs):∀ (ls:List Bu),G9 (addL vs ls):=fun ls=>by
 induction ls generalizing vs with
 | nil=>exact h
 | cons a ls ih=>exact ih (h.addV (Ei a))
theorem aE (vs:List Nat) (x:Int):vs <+: Gw vs x:=by
 unfold Gw;split
 ·split
  ·exact List.prefix_rfl
  ·exact List.prefix_append _ _
 ·exact List.prefix_rfl
theorem MS:∀ (xs:List Int) (vs:List Nat),vs <+: addV vs xs
 | [],_=>List.prefix_rfl
 | x :: xs,vs=>(aE vs x).trans (MS xs (Gw vs x))
theorem KO:∀ (ls:List Bu) (vs:List Nat),vs <+: addL vs ls
 | [],_=>List.prefix_rfl
 | a :: ls,vs=>(MS (Ei a) vs).trans (KO ls (addV vs (Ei a)))
theorem TT (vs:List Nat) {x:Int} (h:x<0):MZ x∈Gw vs x:=by
 unfold Gw;rw [if_pos h];split
 ·rename_i q;exact q
 ·simp
theorem Pd:∀ (xs:List Int) (vs:List Nat) {x:Int},x∈xs→x<0→MZ x∈addV vs xs
 | y :: xs,vs,x,hx,h=>by
  rcases AG.1 hx with rfl | hx
  ·exact (MS xs (Gw vs x)).subset (TT vs h)
  ·exact Pd xs (Gw vs y) hx h
theorem VD:∀ (ls:List Bu) (vs:List Nat) {a:Bu},a∈ls→∀ {x:Int},x∈Ei a→x<0→MZ x∈addL vs ls
 | b :: ls,vs,a,ha,x,hx,h=>by
  rcases AG.1 ha with rfl | ha
  ·exact (KO ls (addV vs (Ei a))).subset (Pd (Ei a) vs hx h)
  ·exact VD ls (addV vs (Ei b)) ha hx h
theorem dE {vs VS:List Nat} (hp:vs <+: VS) {v:Nat} (hv:v∈vs):idxV VS v=idxV vs v:=by
 obtain ⟨t,rfl⟩:=hp;unfold idxV;rw [List.findIdx_append,if_pos (List.findIdx_lt_length_of_exists ⟨v,hv,by simp⟩)]
theorem ME {vs:List Nat} {v:Nat} (hv:v∈vs):idxV vs v<vs.length∧vs[idxV vs v]?=some v:=by
 have h:=List.findIdx_lt_length_of_exists (p:=fun u=>decide (u=v)) ⟨v,hv,by simp⟩;refine ⟨h,?_⟩;have e:=List.findIdx_getElem (w:=h);unfold idxV;rw [AB h];simpa using e
theorem dF {vs:List Nat} {u v:Nat} (hu:u∈vs) (hv:v∈vs) (h:idxV vs u=idxV vs v):u=v:=by
 have h1:=(ME hu).2;have h2:=(ME hv).2;rw [h,h2] at h1;injection h1 with h1;exact h1.symm
theorem Ky {α:Type} {p q:α→Bool}:∀ {l:List α},(∀ x∈l,p x=q x)→l.findIdx? p=l.findIdx? q
 | [],_=>rfl
 | a :: l,h=>by
  rw [List.findIdx?_cons,List.findIdx?_cons,Ky (fun x hx=>h x (by simp [hx]))];have e:=h a (by simp);cases hq:q a <;> simp [e,hq]
def Jf (nm:List UInt8):Prop:=∀ u,u<4→∀ v,v<4→nm.getD u 0=nm.getD v 0→u=v
section
variable {z:Nat} {nm:List UInt8} (h1:1≤z) (h8:z≤8) (hi:Jf nm)
include hi in
theorem Yo {vs:List Nat} (hv:G9 vs) {v:Nat} (h4:v<4):CP (N2 nm vs) (ba [nm.getD v 0])=if v∈vs then some (idxV vs v) else none:=by
 have hp:∀ u∈vs,decide ((ba [nm.getD u 0],(0:Nat)).1=ba [nm.getD v 0])=decide (u=v):=fun u hu=>by
  by_cases e:u=v
  ·subst e;simp
  ·have:¬ (ba [nm.getD u 0]=ba [nm.getD v 0]):=fun q=>by
    have q2:(ba [nm.getD u 0]).data.toList=(ba [nm.getD v 0]).data.toList:=(by rw [q]);have q3:[nm.getD u 0]=[nm.getD v 0]:=q2;injection q3 with q4 _;exact e (hi u (hv.2 u hu) v h4 q4)
   show decide (ba [nm.getD u 0]=ba [nm.getD v 0])=_;rw [decide_eq_false this,decide_eq_false e]
 have e1:CP (N2 nm vs) (ba [nm.getD v 0])=vs.findIdx? (fun u=>decide (u=v)):=by
  unfold CP N2;rw [List.findIdx?_map];exact Ky hp
 rw [e1];split
 ·rename_i hm;rw [Cc];obtain ⟨a,b⟩:=ME hm;refine ⟨a,?_,fun j hj=>?_⟩
  ·obtain ⟨_,e⟩:=AL.1 b;simpa using e
  ·have:=List.not_of_lt_findIdx (p:=fun u=>decide (u=v)) (xs:=vs) (i:=j) hj;simpa using this
 ·rename_i hm;rw [Ct];intro x hx;simp only [decide_eq_false_iff_not];rintro rfl;exact hm hx
include h1 h8 hi in
theorem YQ {cs:List Ac} {vs:List Nat} (hv:G9 vs) (x:Int) (l:Nat) {VS:List Nat} (hp:Gw vs x <+: VS):Gu (BG z cs) (N2 nm vs) ⟨Er z nm x,l⟩ 0=.ok (Jt z VS x,N2 nm (Gw vs x)):=by
 by_cases hx:x<0
 ·have hg:Er z nm x=.var (ba [nm.getD (MZ x) 0]):=by unfold Er;rw [if_pos hx];rfl
  have ht:Jt z VS x=⟨true,(idxV VS (MZ x):Int)⟩:=by unfold Jt;rw [if_pos hx]
  rw [hg,ht,dE hp (TT vs hx)]
  show (match CP (N2 nm vs) (ba [nm.getD (MZ x) 0]) with
   | some p=>if ((N2 nm vs)[p]?.map (fun q:ByteArray×Nat=>q.2)).getD 0≠0 then (Except.error (11,l):Except I0 (BN×Ba)) else .ok (⟨true,p⟩,N2 nm vs)
   | none=>if (N2 nm vs).length=4 then .error (6,l) else .ok (⟨true,(N2 nm vs).length⟩,N2 nm vs++[(ba [nm.getD (MZ x) 0],0)]))=_
  rw [Yo hi hv (VR x)];unfold Gw;rw [if_pos hx];by_cases hm:MZ x∈vs
  ·rw [if_pos hm,if_pos hm];have:((N2 nm vs)[idxV vs (MZ x)]?.map (·.2)).getD 0=0:=by
    unfold N2;rw [AW,(ME hm).2];rfl
   dsimp only;rw [if_neg (by rw [this];simp)]
  ·rw [if_neg hm,if_neg hm];have hl:vs.length<4:=by
    have:=(hv.snoc (VR x) hm).len;rw [AJ,Ah] at this;omega
   have hs:(N2 nm vs).length=vs.length:=(by simp [N2]);have hix:idxV (vs++[MZ x]) (MZ x)=vs.length:=by
    unfold idxV
    rw [List.findIdx_append,if_neg (by
     intro q;have:=List.findIdx_getElem (w:=q);simp only [decide_eq_true_eq] at this
     exact hm (by rw [←this];exact CC _))]
    simp
   dsimp only;rw [if_neg (by rw [hs];omega),hs,hix];simp [N2]
 ·have hg:Er z nm x=.int (GZ (LP x z).toNat):=by unfold Er;rw [if_neg hx]
  have hr:=Ec x (n:=(z:Int)) (by omega);unfold Jt Gw;rw [hg,if_neg hx,if_neg hx];show (if (BG z cs).size 0≤Cp (.int (GZ (LP x z).toNat)) then (Except.error (9,l):Except I0 (BN×Ba)) else .ok (⟨false,Cp (.int (GZ (LP x z).toNat))⟩,N2 nm vs))=_;rw [T3 (by omega),if_neg (by show ¬ ((z:Nat):Int)≤_;omega)]
include h1 h8 hi in
theorem QO {cs:List Ac} (l:Nat):∀ (xs:List Int) {vs:List Nat} (_:G9 vs) {VS:List Nat} (_:addV vs xs <+: VS),D9 (BG z cs) (N2 nm vs) ((xs.map (Er z nm)).map (fun g=>(⟨g,l⟩:Tn))) (List.replicate xs.length 0)=.ok (xs.map (Jt z VS),N2 nm (addV vs xs))
 | [],vs,_,VS,_=>rfl
 | x :: xs,vs,hv,VS,hp=>by
  have t1:=YQ (cs:=cs) h1 h8 hi hv x l (VS:=VS) ((MS xs (Gw vs x)).trans hp);have t2:=QO (cs:=cs) l xs (hv.step x) (VS:=VS) hp;simp only [Au,AU,List.replicate_succ,D9,t1];rw [t2];rfl
include h1 h8 hi in
theorem Qy {cs:List Ac} {vs:List Nat} (hv:G9 vs) (a:Bu) (l:Nat) {VS:List Nat} (hp:addV vs (Ei a) <+: VS):FR (BG z cs) (N2 nm vs) (MO z nm l a)=.ok (eO z VS a,N2 nm (addV vs (Ei a))):=by
 have hk:=IU a.rel;have hr:(BG z cs).rel (ba (IQ (kOf a.rel)))=some (kOf a.rel):=by
  generalize kOf a.rel=k at hk;have:k=0∨k=1∨k=2∨k=3:=by omega
  rcases this with rfl | rfl | rfl | rfl <;> (show CP QZ _=_;decide)
 have hc:(BG z cs).cols (kOf a.rel)=List.replicate (Ei a).length 0:=by
  rw [aZ];generalize kOf a.rel=k at hk;have:k=0∨k=1∨k=2∨k=3:=by omega
  rcases this with rfl | rfl | rfl | rfl <;> rfl
 unfold FR;rw [show (BG z cs).rel (BB (MO z nm l a).name.g)=some (kOf a.rel) from hr];dsimp only;have ht:(MO z nm l a).terms=((Ei a).map (Er z nm)).map (fun g=>(⟨g,l⟩:Tn)):=by
  show ((EE z nm a.L (kOf a.rel)).map _)=_;rw [Va]
 rw [ht,hc,if_neg (by simp),QO h1 h8 hi l (Ei a) hv hp];rfl
include h1 h8 hi in
theorem UH {cs:List Ac} (l:Nat):∀ (ls:List Bu) {vs:List Nat} (_:G9 vs) (k:Nat) (_:k+ls.length≤4) {VS:List Nat} (_:addL vs ls <+: VS),Eg (BG z cs) (N2 nm vs) k (ls.map (P4 z nm l))=.ok (ls.map (fun a=>(eO z VS a,a.no)),N2 nm (addL vs ls))
 | [],vs,_,k,_,VS,_=>rfl
 | a :: ls,vs,hv,k,hk,VS,hp=>by
  rw [AU] at hk;have t1:=Qy (cs:=cs) h1 h8 hi hv a l (VS:=VS) ((KO ls (addV vs (Ei a))).trans hp);have t2:=UH (cs:=cs) l ls (hv.addV (Ei a)) (k+1) (by omega) (VS:=VS) hp;rw [Au,Eg,if_neg (by omega)];rw [show FR (BG z cs) (N2 nm vs) (P4 z nm l a).atom=_ from t1];dsimp only;rw [t2];rfl
def XF (z:Nat) (h:Bu) (ls:List Bu) (c:Ac):Prop:=∃ VS l,G9 VS∧(∀ x∈Ei h,x<0→MZ x∈VS)∧(∀ a∈ls,∀ x∈Ei a,x<0→MZ x∈VS)∧c=fR z VS l h ls
include h1 h8 hi in
theorem Yc {cs:List Ac} (l:Nat) (h:Bu) (ls:List Bu) (h4:ls.length≤4):D0 (BG z cs) (XY z nm l h ls)=if cs.length=52 then .error (6,l) else .ok (BG z (cs++[fR z (addL (addV [] (Ei h)) ls) l h ls])):=by
 show addClause (BG z cs) (MO z nm l h) (ls.map (P4 z nm l))=_;unfold addClause;have v0:G9 []:=⟨by simp,by simp⟩;by_cases h52:cs.length=52
 ·rw [if_pos (show (BG z cs).clauses.length=52 from h52),if_pos h52];rfl
 ·rw [if_neg (show ¬ (BG z cs).clauses.length=52 from h52),if_neg h52];rw [show FR (BG z cs) [] (MO z nm l h)=_ from Qy (cs:=cs) h1 h8 hi v0 h l (KO ls _)];dsimp only;rw [UH h1 h8 hi l ls (v0.addV (Ei h)) 0 (by omega) List.prefix_rfl];rfl
theorem iP (l:Nat) (h:Bu) (ls:List Bu):XF z h ls (fR z (addL (addV [] (Ei h)) ls) l h ls):=
 ⟨_,l,G9.addL (G9.addV ⟨by simp,by simp⟩ _) ls,fun x hx hn=>(KO ls _).subset (Pd (Ei h) [] hx hn),fun a ha x hx hn=>VD ls _ ha hx hn,rfl⟩
end
section
variable {m:Mean} {vals:List Nat} (hf:Dt m) (hst:Dr layG m.clauses vals)
include hf hst in
theorem Rv {z b:Nat} (hz:1≤z) (hh:Ln z m.clauses) (hs:∀ c∈m.clauses,DQ c=false) {rk0:Nat→List Nat→Option Nat} (h0:∀ i,i<m.rels.length→vals.getD i 0≤b→∀ l,(rk0 i l).isSome=true→∀ x∈l,x<z):∀ (t i:Nat),i<m.rels.length→vals.getD i 0≤b→∀ l,(nv (Bx m vals b) m.rels.length rk0 t i l).isSome=true→∀ x∈l,x<z
 | 0,i,hi,hv,l,h=>h0 i hi hv l h
 | t+1,i,hi,hv,l,h=>by
  have ih:=Rv hz hh hs h0 t;simp only [nv] at h;split at h
  ·rename_i hc;obtain ⟨c,hcm,e,ν,hν,hl,ht⟩:=hc.2.2;obtain ⟨hc1,hc2⟩:=Gx hcm;intro x hx;rw [←ht] at hx;obtain ⟨u,hu,rfl⟩:=AM.1 hx;cases hvu:u.isVar with
   | false=>
    have:=hh c hc1 u hu hvu;unfold Ia;rw [hvu];simp only [BQ,if_false];omega
   | true=>
    obtain ⟨a,ha,hn,q,hq,hqv,hqn⟩:=gM (hs c hc1) hu hvu;have h1:=hl a ha;unfold FY at h1;rw [hn] at h1;simp only [BQ,if_false] at h1;have q2:max (vals.getD c.head.rel 0) (vals.getD a.1.rel 0+(if a.2 then 1 else 0))=vals.getD c.head.rel 0:=hst c hc1 a ha;have hle:vals.getD a.1.rel 0≤b:=by rw [hc2] at q2;have:=Dv b (vals.getD a.1.rel 0+(if a.2 then 1 else 0));omega
    have h2:=ih a.1.rel (hf.lits c hc1 a ha).rel hle _ h1 (Ia ν q) (AM.2 ⟨q,hq,rfl⟩);have e2:Ia ν q=Ia ν u:=by unfold Ia;rw [hqv,hvu,hqn]
    rw [←e2];exact h2
  ·exact ih i hi hv l h
include hf hst in
theorem dJ {z:Nat} (hz:1≤z) (hh:Ln z m.clauses) (hs:∀ c∈m.clauses,DQ c=false) {Fs:Nat→List Nat→Prop} (hF:∀ i l,Fs i l→∀ x∈l,x<z) {rk:Nat→List Nat→Option Nat} (h:MX m vals Fs rk) (hlt:∀ i,i<m.rels.length→vals.getD i 0<m.rels.length):∀ i,i<m.rels.length→∀ l,(rk i l).isSome=true→∀ x∈l,x<z:=by
 have key:∀ b,b≤m.rels.length→∀ i,i<m.rels.length→vals.getD i 0<b→∀ l,(rk i l).isSome=true→∀ x∈l,x<z:=fun b=>by
  induction b with
  | zero=>intro _ i _ hv;omega
  | succ b ih=>
   intro hb i hi hv l hl;obtain ⟨T,hT⟩:=h b (by omega);rw [←hT T (AQ _) i hi (by omega)] at hl;refine Rv hf hst hz hh hs (fun j hj hjv q hq=>?_) T i hi (by omega) l hl;unfold Dh at hq;split at hq
   ·unfold Fk at hq;split at hq
    ·rename_i hfq;exact hF j q hfq
    ·cases hq
   ·exact ih (by omega) j hj (by omega) q hq
 exact fun i hi=>key m.rels.length (AQ _) i hi (hlt i hi)
end
def Zu (z:Nat):Nat→List (List Nat)
 | 0=>[[]]
 | n+1=>(List.range z).flatMap (fun x=>(Zu z n).map (fun l=>x :: l))
theorem TG {z:Nat}:∀ (n:Nat) {l:List Nat},l.length=n→(∀ x∈l,x<z)→l∈Zu z n
 | 0,l,h,_=>by rw [List.length_eq_zero_iff.1 h];simp [Zu]
 | n+1,[],h,_=>by simp at h
 | n+1,x :: l,h,hx=>by
  rw [Zu,Ap];exact ⟨x,B9.2 (hx x (by simp)),AM.2 ⟨l,TG n (by simpa using h) (fun y hy=>hx y (by simp [hy])),rfl⟩⟩
def Lq (z:Nat):List (Nat×List Nat):=(List.range 4).flatMap (fun i=>(Zu z (relK i)).map (fun l=>(i,l)))
theorem Mb {z i:Nat} {l:List Nat} (hi:i<4) (hl:l.length=relK i) (hx:∀ x∈l,x<z):(i,l)∈Lq z:=Ap.2 ⟨i,B9.2 hi,AM.2 ⟨l,TG _ hl hx,rfl⟩⟩
theorem YI {z:Nat} (h:z≤4):(Lq z).length≤100:=by
 have:z=0∨z=1∨z=2∨z=3∨z=4:=by omega
 rcases this with rfl | rfl | rfl | rfl | rfl <;> decide
def Wr (U:List (Nat×List Nat)) (rk:Nat→List Nat→Option Nat):Nat:=(U.filter (fun p=>(rk p.1 p.2).isNone)).length
theorem Tw {cs:List Ac} {n:Nat} {U:List (Nat×List Nat)} {rk0:Nat→List Nat→Option Nat} (hall:∀ t i l,i<n→derives cs (nv cs n rk0 t) i l→(i,l)∈U):∀ (t:Nat) {i:Nat} {l:List Nat},i<n→nv cs n rk0 t i l=none→derives cs (nv cs n rk0 t) i l→t+1+Wr U (nv cs n rk0 (t+1))≤Wr U rk0
 | t,i,l,hi,hn,hd=>by
  have hnew:=LR hi hn hd;have hstep:Wr U (nv cs n rk0 (t+1))<Wr U (nv cs n rk0 t):=by
   refine SN (fun p hp=>?_) U (i,l) (hall t i l hi hd) (by dsimp only;rw [hn];rfl) (by dsimp only;rw [hnew];rfl);cases hx:nv cs n rk0 t p.1 p.2 with
   | none=>rfl
   | some y=>
    rw [JD (by rw [hx];simp),hx] at hp;cases hp
  cases t with
  | zero=>
   have:nv cs n rk0 0=rk0:=rfl;rw [this] at hstep;omega
  | succ t=>
   by_cases hex:∃ j q,j<n∧derives cs (nv cs n rk0 t) j q∧nv cs n rk0 t j q=none
   ·obtain ⟨j,q,hj,h1,h2⟩:=hex;have:=Tw hall t hj h2 h1;omega
   ·exfalso;have hs:=J1 (cs:=cs) (n:=n) (rk0:=rk0) (T:=t) (fun j q hj hq=>hex ⟨j,q,hj,hq.1,hq.2⟩) 1;rw [hs] at hn hd;exact hex ⟨i,l,hi,hd,hn⟩
theorem ZZ {U:List (Nat×List Nat)} {rk:Nat→List Nat→Option Nat} (h:U.length≤Wr U rk):∀ p∈U,rk p.1 p.2=none:=fun p hp=>by
 have e:=List.length_filter_eq_length_iff.1 (Nat.le_antisymm (Bl _ U) h) p hp;simpa using e
theorem ZY {U:List (Nat×List Nat)} {rk:Nat→List Nat→Option Nat} (h:Wr U rk=0):∀ p∈U,rk p.1 p.2≠none:=fun p hp q=>by
 have:=List.filter_eq_nil_iff.1 (List.length_eq_zero_iff.1 h) p hp;rw [q] at this;simp at this
theorem PR {z:Nat} {cs:List Ac} {i:Nat} (hi:i<4):((BG z cs).cols i).length=relK i:=by
 have:i=0∨i=1∨i=2∨i=3:=by omega
 rcases this with rfl | rfl | rfl | rfl <;> rfl
theorem jI {z:Nat} {cs:List Ac} {vals:List Nat} (hf:Dt (BG z cs)) (hst:Dr layG cs vals) (hz:1≤z) (h4:z≤4) (hh:Ln z cs) (hs:∀ c∈cs,DQ c=false) {Fs:Nat→List Nat→Prop} (hF:∀ i l,Fs i l→∀ x∈l,x<z) {rk:Nat→List Nat→Option Nat} (h:MX (BG z cs) vals Fs rk) (hlt:∀ i,i<4→vals.getD i 0<4):∀ i,i<4→∀ l r,rk i l=some r→r<100:=by
 intro i hi l r hr;have hin:=dJ hf hst hz hh hs hF h hlt;obtain ⟨b,hb⟩:∃ b,vals.getD i 0=b:=⟨_,rfl⟩;have hb4:b<4:=by rw [←hb];exact hlt i hi
 obtain ⟨T,hT⟩:=h b hb4;obtain ⟨rk0,hrk0⟩:∃ rk0,Dh (BG z cs).rels.length vals Fs rk b=rk0:=⟨_,rfl⟩;have h0:∀ j,j<4→vals.getD j 0≤b→∀ q,(rk0 j q).isSome=true→∀ x∈q,x<z:=fun j hj _ q hq=>by
  rw [←hrk0] at hq;unfold Dh at hq;split at hq
  ·unfold Fk at hq;split at hq
   ·rename_i hfq;exact hF j q hfq
   ·cases hq
  ·exact hin j hj q hq
 rw [hrk0] at hT;have h1:=hT T (AQ _) i hi (by omega);rw [←h1] at hr;have hn:(BG z cs).rels.length=4:=rfl;rw [hn] at hr;rcases iG hr with hr | ⟨_,hr1,_,hr2,hr3⟩
 ·rw [←hrk0] at hr;unfold Dh at hr;rw [if_pos ⟨hi,hb⟩] at hr;unfold Fk at hr;split at hr
  ·cases hr;omega
  ·cases hr
 ·have hlen:∀ (rk':Nat→List Nat→Option Nat) j q,derives (Bx (BG z cs) vals b) rk' j q→q.length=relK j∧j<4∧vals.getD j 0=b:=fun rk' j q hd=>by
   obtain ⟨c,hcm,e,ν,hν,hl,ht⟩:=hd;obtain ⟨c1,c2⟩:=Gx hcm;have hfi:=hf.heads c c1;have hj:j<4:=by rw [←e];exact hfi.rel
   exact ⟨by rw [←ht,AY,hfi.len,e,PR hj],hj,by rw [←e];exact c2⟩
  have hall:∀ t j q,j<4→derives (Bx (BG z cs) vals b) (nv (Bx (BG z cs) vals b) 4 rk0 t) j q→(j,q)∈Lq z:=fun t j q hj hd=>by
   obtain ⟨e1,_,e3⟩:=hlen _ j q hd;refine Mb hj e1 ?_;by_cases hq:nv (Bx (BG z cs) vals b) 4 rk0 t j q=none
   ·exact Rv hf hst hz hh hs h0 (t+1) j hj (by omega) q (by rw [hn,LR hj hq hd];rfl)
   ·exact Rv hf hst hz hh hs h0 t j hj (by omega) q (by rw [hn];exact Option.isSome_iff_ne_none.2 hq)
  have hsoon:=Tw hall (r - 1) hi hr2 hr3;rw [Nat.sub_add_cancel hr1] at hsoon;have hU:=YI h4;have hle:Wr (Lq z) rk0≤(Lq z).length:=Bl _ _;refine Nat.lt_of_not_le fun hge=>?_;have hfull:=ZZ (rk:=rk0) (U:=Lq z) (by omega);have hnone:=ZY (U:=Lq z) (rk:=nv (Bx (BG z cs) vals b) 4 rk0 r) (by omega);have hallb:∀ j,j<4→vals.getD j 0=b:=fun j hj=>by
   refine Decidable.byContradiction fun hne=>?_;have hm:(j,List.replicate (relK j) 0)∈Lq z:=Mb hj BY (fun x hx=>by rw [(List.mem_replicate.1 hx).2];omega);have hoff:=V5 (m:=BG z cs) (vals:=vals) (lay:=b) (n:=4) (rk:=rk0) r hne;have q1:=hnone _ hm;dsimp only at q1;rw [hoff] at q1;exact q1 (hfull _ hm)
  have hno:∀ j q,¬ derives (Bx (BG z cs) vals b) rk0 j q:=fun j q hd=>by
   obtain ⟨c,hcm,e,ν,hν,hl,ht⟩:=hd;obtain ⟨c1,c2⟩:=Gx hcm;have hp:0<c.lits.length:=by
    unfold Bx at hcm;have:=(Ai.1 (Ai.1 hcm).1).2;simpa [D7] using this
   obtain ⟨a,ha⟩:=List.exists_mem_of_length_pos hp;have hfa:=hf.lits c c1 a ha;have ha4:a.1.rel<4:=hfa.rel;have hla:=hl a ha;unfold FY at hla;split at hla
   ·rename_i hneg;have q2:max (vals.getD c.head.rel 0) (vals.getD a.1.rel 0+(if a.2 then 1 else 0))=vals.getD c.head.rel 0:=hst c c1 a ha;rw [hneg,hallb _ ha4,c2,if_pos rfl] at q2;have:=Dv b (b+1);omega
   ·have hm:(a.1.rel,a.1.terms.map (Ia ν))∈Lq z:=Mb ha4 (by rw [AY,hfa.len,PR ha4]) (h0 _ ha4 (by rw [hallb _ ha4];exact AQ _) _ hla);have:=hfull _ hm;dsimp only at this;rw [this] at hla;cases hla
  have hst0:=J1 (cs:=Bx (BG z cs) vals b) (n:=4) (rk0:=rk0) (T:=0) (fun j q _ hq=>hno j q hq.1) (r - 1);rw [Ag] at hst0;rw [hst0] at hr3;exact hno _ _ hr3
def tlC (s:ByteArray) (l:List Nat):ByteArray:=l.foldl (fun (s:ByteArray) (x:Nat)=>s++⟨#[32]⟩++Kn (x:Int)) s
def tlT (k:Nat) (s:ByteArray) (l:List Nat) (r:Nat):ByteArray:=tlC (s++Ij k) l++⟨#[32,97,116,32]⟩++Kn (r:Int)++⟨#[59,32]⟩
def lW (rk:Nat→List Nat→Option Nat) (k:Nat) (s:ByteArray) (ls:List (List Nat)):ByteArray:=ls.foldl (fun s l=>tlT k s l ((rk k l).getD 0)) s
def fP (rk:Nat→List Nat→Option Nat) (k:Nat):List (List Nat):=(DP (relK k)).filter (fun l=>(rk k l).isSome)
def XO (rk:Nat→List Nat→Option Nat):Nat→ByteArray
 | 0=>⟨#[]⟩
 | k+1=>lW rk k (XO rk k) (fP rk k)
theorem TM {rk rk':Nat→List Nat→Option Nat} (h:∀ i,i<4→rk i=rk' i):∀ k,k≤4→XO rk k=XO rk' k
 | 0,_=>rfl
 | k+1,hk=>by
  have e:=h k (by omega);rw [XO,XO,TM h k (by omega)];unfold lW fP;rw [e]
theorem Z0 (s:ByteArray) (l:List Nat) {j x:Nat} (h:l[j]?=some x):tlC s (l.take (j+1))=tlC s (l.take j)++⟨#[32]⟩++Kn (x:Int):=by
 unfold tlC;rw [An,h,List.foldl_append];rfl
theorem Zz (rk:Nat→List Nat→Option Nat) (k:Nat) (s:ByteArray) (ls:List (List Nat)) {j:Nat} {x:List Nat} (h:ls[j]?=some x):lW rk k s (ls.take (j+1))=tlT k (lW rk k s (ls.take j)) x ((rk k x).getD 0):=by
 unfold lW;rw [An,h,List.foldl_append];rfl
def nI (z:Nat) (val:Nat→Nat) (x:Int):Nat:=if x<0 then val (MZ x) else (LP x z).toNat
def Wa (z:Nat) (rk:Nat→List Nat→Option Nat) (val:Nat→Nat) (a:Bu):Prop:=if a.no then ¬ (rk (kOf a.rel) ((Ei a).map (nI z val))).isSome=true else (rk (kOf a.rel) ((Ei a).map (nI z val))).isSome=true
def Xz (z:Nat) (rk:Nat→List Nat→Option Nat) (h:Bu) (ls:List Bu) (l:List Nat):Prop:=∃ val:Nat→Nat,(∀ v,val v<8)∧(∀ a∈ls,Wa z rk val a)∧(Ei h).map (nI z val)=l
theorem Mn {z:Nat} {VS:List Nat} {ν:List Nat} {val:Nat→Nat} (hν:∀ v∈VS,ν.getD (idxV VS v) 0=val v) {xs:List Int} (hx:∀ x∈xs,x<0→MZ x∈VS):(xs.map (Jt z VS)).map (Ia ν)=xs.map (nI z val):=by
 rw [CZ];refine Bn fun x hm=>?_;show Ia ν (Jt z VS x)=nI z val x;unfold Ia Jt nI;by_cases h:x<0
 ·rw [if_pos h,if_pos h];dsimp only;rw [if_pos rfl,BE];exact hν _ (hx x hm h)
 ·rw [if_neg h,if_neg h];dsimp only;rw [if_neg (by simp),BE]
theorem NY {z:Nat} {h:Bu} {ls:List Bu} {c:Ac} (hc:XF z h ls c) (rk:Nat→List Nat→Option Nat) (l:List Nat):brings c.head.terms (fun ν=>∀ a∈c.lits,FY rk a ν) l↔Xz z rk h ls l:=by
 obtain ⟨VS,ln,hv,hh,hl,rfl⟩:=hc;have hlit:∀ {ν:List Nat} {val:Nat→Nat},(∀ v∈VS,ν.getD (idxV VS v) 0=val v)→∀ a∈ls,(FY rk (eO z VS a,a.no) ν↔Wa z rk val a):=fun {ν val} hν a ha=>by
  unfold FY Wa;show (if a.no=true then ¬ (rk (kOf a.rel) (((Ei a).map (Jt z VS)).map (Ia ν))).isSome=true else (rk (kOf a.rel) (((Ei a).map (Jt z VS)).map (Ia ν))).isSome=true)↔_;rw [Mn hν (hl a ha)]
 constructor
 ·rintro ⟨ν,hν,hΦ,ht⟩;have hq:∀ v∈VS,ν.getD (idxV VS v) 0=(fun v=>ν.getD (idxV VS v) 0) v:=fun v _=>rfl;refine ⟨fun v=>ν.getD (idxV VS v) 0,fun v=>?_,fun a ha=>?_,?_⟩
  ·show ν.getD (idxV VS v) 0<8;rw [Ad];cases hx:ν[idxV VS v]? with
   | none=>decide
   | some y=>exact (GT.1 hν).2 y (AE hx)
  ·exact (hlit hq a ha).1 (hΦ _ (AM.2 ⟨a,ha,rfl⟩))
  ·rw [←Mn hq hh];exact ht
 ·rintro ⟨val,h8,hls,ht⟩;have hν:∀ v∈VS,((List.range 4).map (fun j=>val (VS.getD j 0))).getD (idxV VS v) 0=val v:=fun v hm=>by
   obtain ⟨a,b⟩:=ME hm;have:=hv.len;rw [Ad,AW,CS (by omega)];show val (VS.getD (idxV VS v) 0)=val v;rw [Ad,b];rfl
  refine ⟨(List.range 4).map (fun j=>val (VS.getD j 0)),GT.2 ⟨by simp,fun x hx=>?_⟩,fun q hq=>?_,?_⟩
  ·obtain ⟨j,_,rfl⟩:=AM.1 hx;exact h8 _
  ·obtain ⟨a,ha,rfl⟩:=AM.1 hq;exact (hlit hν a ha).2 (hls a ha)
  ·show ((Ei h).map (Jt z VS)).map _=l;rw [Mn hν hh];exact ht
theorem Jp {z:Nat} {VS:List Nat} {xs:List Int} {n:Int}:n∈FO (xs.map (Jt z VS))↔∃ x∈xs,x<0∧n=(idxV VS (MZ x):Int):=by
 unfold FO;simp only [AM,Ai];constructor
 ·rintro ⟨t,⟨⟨x,hx,rfl⟩,hv⟩,rfl⟩;unfold Jt at hv ⊢;by_cases h:x<0
  ·rw [if_pos h];exact ⟨x,hx,h,rfl⟩
  ·rw [if_neg h] at hv;cases hv
 ·rintro ⟨x,hx,h,rfl⟩;exact ⟨Jt z VS x,⟨⟨x,hx,rfl⟩,by unfold Jt;rw [if_pos h]⟩,by unfold Jt;rw [if_pos h]⟩
theorem NX {z:Nat} {h:Bu} {ls:List Bu} {c:Ac} (hc:XF z h ls c):DQ c=true↔∃ v,((∃ x∈Ei h,x<0∧MZ x=v)∨∃ a∈ls,a.no=true∧∃ x∈Ei a,x<0∧MZ x=v)∧¬ ∃ a∈ls,a.no=false∧∃ x∈Ei a,x<0∧MZ x=v:=by
 obtain ⟨VS,ln,hv,hh,hl,rfl⟩:=hc;have hb:∀ n:Int,n∈JO (fR z VS ln h ls)↔∃ a∈ls,a.no=false∧∃ x∈Ei a,x<0∧n=(idxV VS (MZ x):Int):=fun n=>by
  unfold JO fR;simp only [Ap,Ai,AM];constructor
  ·rintro ⟨q,⟨⟨a,ha,rfl⟩,hn⟩,hm⟩;exact ⟨a,ha,by simpa using hn,Jp.1 hm⟩
  ·rintro ⟨a,ha,hn,hm⟩;exact ⟨_,⟨⟨a,ha,rfl⟩,by simp [hn]⟩,Jp.2 hm⟩
 have ha:∀ n:Int,n∈KK (fR z VS ln h ls)↔(∃ x∈Ei h,x<0∧n=(idxV VS (MZ x):Int))∨∃ a∈ls,a.no=true∧∃ x∈Ei a,x<0∧n=(idxV VS (MZ x):Int):=fun n=>by
  unfold KK;rw [AC];refine or_congr Jp ?_;unfold fR;simp only [Ap,Ai,AM];constructor
  ·rintro ⟨q,⟨⟨a,ha,rfl⟩,hn⟩,hm⟩;exact ⟨a,ha,by simpa using hn,Jp.1 hm⟩
  ·rintro ⟨a,ha,hn,hm⟩;exact ⟨_,⟨⟨a,ha,rfl⟩,by simp [hn]⟩,Jp.2 hm⟩
 unfold DQ;rw [List.any_eq_true];constructor
 ·rintro ⟨n,hn,hnb⟩;have hnb:n∉JO (fR z VS ln h ls):=by simpa using hnb
  rcases (ha n).1 hn with ⟨x,hx,h0,rfl⟩ | ⟨a,hal,hno,x,hx,h0,rfl⟩
  ·exact ⟨MZ x,.inl ⟨x,hx,h0,rfl⟩,fun ⟨b,hb1,hb2,y,hy,hy0,e⟩=>hnb ((hb _).2 ⟨b,hb1,hb2,y,hy,hy0,by rw [e]⟩)⟩
  ·exact ⟨MZ x,.inr ⟨a,hal,hno,x,hx,h0,rfl⟩,fun ⟨b,hb1,hb2,y,hy,hy0,e⟩=>hnb ((hb _).2 ⟨b,hb1,hb2,y,hy,hy0,by rw [e]⟩)⟩
 ·rintro ⟨v,hv1,hv2⟩;have hmem:v∈VS:=by
   rcases hv1 with ⟨x,hx,h0,rfl⟩ | ⟨a,hal,_,x,hx,h0,rfl⟩
   ·exact hh x hx h0
   ·exact hl a hal x hx h0
  refine ⟨(idxV VS v:Int),(ha _).2 ?_,?_⟩
  ·rcases hv1 with ⟨x,hx,h0,rfl⟩ | ⟨a,hal,hno,x,hx,h0,rfl⟩
   ·exact .inl ⟨x,hx,h0,rfl⟩
   ·exact .inr ⟨a,hal,hno,x,hx,h0,rfl⟩
  ·have:(idxV VS v:Int)∉JO (fR z VS ln h ls):=fun q=>by
    obtain ⟨b,hb1,hb2,y,hy,hy0,e⟩:=(hb _).1 q;exact hv2 ⟨b,hb1,hb2,y,hy,hy0,(dF hmem (hl b hb1 y hy hy0) (by omega)).symm⟩
   simpa using this
structure fN (c c':Ac):Prop where
 head:c'.head.rel=c.head.rel
 lits:∀ a∈c.lits,∃ a'∈c'.lits,a'.1.rel=a.1.rel∧a'.2=a.2
 back:∀ a∈c'.lits,∃ a'∈c.lits,a'.1.rel=a.1.rel∧a'.2=a.2
 safe:DQ c' = DQ c
 brings:∀ rk l,brings c.head.terms (fun ν=>∀ a∈c.lits,FY rk a ν) l↔brings c'.head.terms (fun ν=>∀ a∈c'.lits,FY rk a ν) l
theorem ZJ {z:Nat} {h:Bu} {ls ls':List Bu} (hs:∀ a,a∈ls'↔a∈ls) {c c':Ac} (hc:XF z h ls c) (hc':XF z h ls' c'):fN c c':=by
 have hb:=NY hc;have hb':=NY hc';have hu:=NX hc;have hu':=NX hc';refine ⟨?_,?_,?_,?_,fun rk l=>?_⟩
 ·obtain ⟨VS,ln,_,_,_,rfl⟩:=hc;obtain ⟨VS',ln',_,_,_,rfl⟩:=hc';rfl
 ·obtain ⟨VS,ln,_,_,_,rfl⟩:=hc;obtain ⟨VS',ln',_,_,_,rfl⟩:=hc';intro a ha;obtain ⟨b,hb,rfl⟩:=AM.1 ha;exact ⟨_,AM.2 ⟨b,(hs b).2 hb,rfl⟩,rfl,rfl⟩
 ·obtain ⟨VS,ln,_,_,_,rfl⟩:=hc;obtain ⟨VS',ln',_,_,_,rfl⟩:=hc';intro a ha;obtain ⟨b,hb,rfl⟩:=AM.1 ha;exact ⟨_,AM.2 ⟨b,(hs b).1 hb,rfl⟩,rfl,rfl⟩
 ·rw [Bg,hu,hu'];simp only [hs]
 ·rw [hb,hb'];unfold Xz;simp only [hs]
def Pq (cs cs':List Ac):Prop:=∀ c∈cs,∃ c'∈cs',fN c c'
theorem Pq.append {a a' b b':List Ac} (h:Pq a a') (k:Pq b b'):Pq (a++b) (a'++b'):=fun c hc=>by
 rcases AC.1 hc with hc | hc
 ·obtain ⟨d,hd,e⟩:=h c hc;exact ⟨d,AC.2 (.inl hd),e⟩
 ·obtain ⟨d,hd,e⟩:=k c hc;exact ⟨d,AC.2 (.inr hd),e⟩
section
variable {cs cs':List Ac}
theorem Pq.stable (h:Pq cs' cs) {vals:List Nat} (hs:Dr layG cs vals):Dr layG cs' vals:=fun c' hc' l' hl'=>by
 obtain ⟨c,hc,e⟩:=h c' hc';obtain ⟨l,hl,e1,e2⟩:=e.lits l' hl';have:=hs c hc l hl;unfold layG at this ⊢;rw [e1,e2,e.head] at this;exact this
theorem Pq.safe (h:Pq cs' cs) (hs:∀ c∈cs,DQ c=false):∀ c∈cs',DQ c=false:=fun c' hc'=>by
 obtain ⟨c,hc,e⟩:=h c' hc';rw [←e.safe];exact hs c hc
theorem Pq.edges (h:Pq cs' cs) {e:Nat×Nat} (he:e∈Cf cs'):e∈Cf cs:=by
 obtain ⟨c',hc',hm⟩:=Ap.1 he;obtain ⟨c,hc,q⟩:=h c' hc';obtain ⟨l',hl',rfl⟩:=AM.1 hm;obtain ⟨l,hl,e1,_⟩:=q.lits l' hl';exact Ap.2 ⟨c,hc,AM.2 ⟨l,hl,by rw [e1,q.head]⟩⟩
theorem Wd {E E':EV} (h:∀ e∈E',e∈E) {a b:Nat} (k:D8 E' a b):D8 E a b:=by
 induction k with
 | here a=>exact .here a
 | step he _ ih=>exact .step (h _ he) ih
theorem Pq.circle {n:Nat} (h:Pq cs' cs) (hr:∀ c∈cs,Gg n c) (hr':∀ c∈cs',Gg n c) (hs:∀ c∈cs,ET n (Cf cs) c=false):∀ c∈cs',ET n (Cf cs') c=false:=fun c' hc'=>by
 obtain ⟨c,hc,e⟩:=h c' hc';have h0:=hs c hc;unfold ET at h0 ⊢;rw [List.any_eq_false] at h0 ⊢;intro l' hl' hq;obtain ⟨l,hl,e1,e2⟩:=e.lits l' hl';obtain ⟨q1,q2⟩:=Bool.and_eq_true_iff.1 hq;refine h0 l hl (Bool.and_eq_true_iff.2 ⟨by rw [e2];exact q1,?_⟩);rw [FD (Fi hr) ((hr c hc).2 l hl),e1,e.head];rw [FD (Fi hr') ((hr' c' hc').2 l' hl')] at q2;exact Wd (fun e he=>h.edges he) q2
theorem Pq.derives {z:Nat} (h:Pq cs' cs) {vals vals':List Nat} (hv:∀ i,vals.getD i 0=vals'.getD i 0) {b:Nat} {rk:Nat→List Nat→Option Nat} {i:Nat} {l:List Nat} (hd:derives (Bx (BG z cs') vals' b) rk i l):derives (Bx (BG z cs) vals b) rk i l:=by
 obtain ⟨c',hc',e,hb⟩:=hd;unfold Bx at hc';obtain ⟨m1,m2⟩:=Ai.1 hc';obtain ⟨m3,m4⟩:=Ai.1 m1;obtain ⟨c,hc,q⟩:=h c' m3;refine ⟨c,?_,by rw [q.head];exact e,(q.brings rk l).1 hb⟩;refine Ai.2 ⟨Ai.2 ⟨hc,?_⟩,?_⟩
 ·have:0<c'.lits.length:=by simpa [D7] using m4
  obtain ⟨a,ha⟩:=List.exists_mem_of_length_pos this;obtain ⟨d,hd,_⟩:=q.lits a ha;have:=Ck hd;simpa [D7] using this
 ·have:vals'.getD c'.head.rel 0=b:=by simpa using m2
  rw [q.head,hv,this];simp
theorem Xi {cs1 cs2:List Ac} (h:∀ rk i l,derives cs1 rk i l↔derives cs2 rk i l) {n:Nat} {rk:Nat→List Nat→Option Nat}:∀ t,nv cs1 n rk t=nv cs2 n rk t
 | 0=>rfl
 | t+1=>by
  funext i l
  simp only [nv];rw [Xi h t];by_cases q:i<n∧nv cs2 n rk t i l=none∧derives cs2 (nv cs2 n rk t) i l
  ·rw [if_pos q,if_pos ⟨q.1,q.2.1,(h _ _ _).2 q.2.2⟩]
  ·rw [if_neg q,if_neg (fun p=>q ⟨p.1,p.2.1,(h _ _ _).1 p.2.2⟩)]
theorem Pq.fix {z:Nat} (h:Pq cs cs') (h':Pq cs' cs) {vals vals':List Nat} (hv:∀ i,vals.getD i 0=vals'.getD i 0) {F:Nat→List Nat→Prop} {rk:Nat→List Nat→Option Nat} (hx:MX (BG z cs') vals' F rk):MX (BG z cs) vals F rk:=fun b hb=>by
 obtain ⟨T,hT⟩:=hx b hb;refine ⟨T,fun t ht i hi hvi=>?_⟩;have e1:∀ rk,nv (Bx (BG z cs) vals b) 4 rk t=nv (Bx (BG z cs') vals' b) 4 rk t:=fun rk=>Xi (fun rk i l=>⟨fun q=>h.derives (fun j=>(hv j).symm) q,fun q=>h'.derives hv q⟩) t;have e2:Dh 4 vals F rk b=Dh 4 vals' F rk b:=by
  funext j
  unfold Dh;rw [hv]
 have:=hT t ht i hi (by rw [←hv];exact hvi);show nv (Bx (BG z cs) vals b) 4 (Dh 4 vals F rk b) t i=rk i;rw [e1,e2];exact this
end
def fk (z:Nat) (f:Ch):Nat×List Nat:=(kOf f.rel,DG z f.L (kOf f.rel))
def amI (z:Nat) (hs:List Ch) (f:Ch):Option Nat:=hs.findIdx? (fun h=>decide (fk z h=fk z f))
def nxt (z:Nat) (hs:List Ch) (f:Ch):List Ch:=match amI z hs f with | some i=>hs.take i++hs.drop (i+1) | none=>hs++[f]
def dsO (z:Nat) (out:List Ch) (f:Ch):List Ch:=if amI z out f=none then out++[f] else out
def dst (z:Nat) (fs:List Ch):List Ch:=fs.foldl (dsO z) []
def hsT (z:Nat) (fs ms:List Ch) (j:Nat):List Ch:=(ms.take j).foldl (nxt z) (dst z fs)
end
end Go.Proofs.YtgjomknpjigkhaaGreatDoor
