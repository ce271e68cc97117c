import Derived.Test.YtgjomknpjigkhaaGreatDoorU35
import Derived.Test.YtgjomknpjigkhaaGreatDoorU36
import Derived.ProofKit
import Derived.OpenShut
import Derived.Deep.DeepHandedRow
import Derived.Lib.LaidTab
import Derived.WideKeyArgs
import Derived.Deep.Slices
import Derived.SizedLaws
namespace Go.Proofs.YtgjomknpjigkhaaGreatDoor
open Go.Proofs.Tryz
set_option maxRecDepth 100000
set_option maxHeartbeats 4000000
section
open Go.RowKit
theorem nobang_vals {cs:List iQA} {n:Nat} {vals:List Nat} (hb:NoBang cs) (h:LayI cs n vals) (i:Nat):vals.getD i 0=0:=by
 have hs:rQE layG cs []:=fun c hc l hl=>by
  show max _ _=_;rw [hb c hc l hl];rfl
 exact Nat.le_zero.1 (h.2.2 [] hs i)
theorem nv_nilW (n:Nat) (rk:Nat→List Nat→Option Nat):∀ t,nv [] n rk t=rk
 | 0=>rfl
 | t+1=>by
  funext i l
  simp only [nv];rw [if_neg]
  ·rw [nv_nilW n rk t]
  ·rintro ⟨_,_,c,hc,_⟩;cases hc
noncomputable def base0 (n:Nat) (Fs:Nat→List Nat→Prop):Nat→List Nat→Option Nat:=fun i=>if i<n then fQJ (fun _=>none) (Fs i) 0 else fun _=>none
end
section
open Go.RowKit
theorem nv_out {cs:List iQA} {n:Nat} {rk0:Nat→List Nat→Option Nat}:∀ (t:Nat) {i:Nat} (l:List Nat),n≤i→nv cs n rk0 t i l=rk0 i l
 | 0,_,_,_=>rfl
 | t+1,i,l,h=>by
  simp only [nv];rw [if_neg (fun q=>by have:=q.1;omega)];exact nv_out t l h
theorem nv_from {cs:List iQA} {n:Nat} {rk0:Nat→List Nat→Option Nat} {i:Nat} {l:List Nat} {r:Nat} (h:rk0 i l=some r):∀ t,nv cs n rk0 t i l=some r
 | 0=>h
 | t+1=>by
  have ih:=nv_from (cs:=cs) (n:=n) h t;rw [nv_old (by rw [ih];simp),ih]
theorem nQH {m:Mean} {vals:List Nat} (hv:∀ i,vals.getD i 0=0) {Fs:Nat→List Nat→Prop} {rk0:Nat→List Nat→Option Nat} (h0:∀ i l,m.rels.length≤i→rk0 i l=none):∀ (b:Nat) {rk:Nat→List Nat→Option Nat},LaysP m vals Fs rk0 (b+1) rk→∃ T,∀ t,T≤t→rk=nv (m.clauses.filter fQD) m.rels.length (base0 m.rels.length Fs) t
 | 0,rk,h=>by
  cases h with
  | step h1 h2=>
   cases h1 with
   | refl=>
    obtain ⟨T,hT⟩:=h2;refine ⟨T,fun t ht=>?_⟩;rw [hT t ht];have e1:aQG m vals 0=m.clauses.filter fQD:=by
     unfold aQG;rw [List.filter_eq_self];intro c _;rw [hv];rfl
    have e2:oQH m.rels.length vals Fs rk0 0=base0 m.rels.length Fs:=by
     funext i
     unfold oQH base0;rw [hv];by_cases hi:i<m.rels.length
     ·simp [hi]
     ·simp only [hi,false_and,if_false];funext l
      exact h0 i l (by omega)
    rw [e1,e2]
 | b+1,rk,h=>by
  cases h with
  | @step _ rk1 _ h1 h2=>
   obtain ⟨T,hT⟩:=h2;have e1:aQG m vals (b+1)=[]:=by
    unfold aQG;rw [List.filter_eq_nil_iff];intro c _;rw [hv];simp
   have e2:oQH m.rels.length vals Fs rk1 (b+1)=rk1:=by
    funext i
    unfold oQH;rw [hv,if_neg (by omega)]
   have:=hT T (Nat.le_refl _);rw [e1,e2,nv_nilW] at this;subst this;exact nQH hv h0 b h1
theorem base0_zero {n:Nat} {Fs:Nat→List Nat→Prop} (i:Nat) (l:List Nat) (r:Nat) (h:base0 n Fs i l=some r):r=0:=by
 unfold base0 at h;split at h
 ·unfold fQJ at h;split at h
  ·cases h;rfl
  ·cases h
 ·cases h
theorem base0_some {n:Nat} {Fs:Nat→List Nat→Prop} {i:Nat} {l:List Nat} (hi:i<n) (h:Fs i l):base0 n Fs i l=some 0:=by
 unfold base0;rw [if_pos hi];unfold fQJ;rw [if_pos h]
theorem grow {m:Mean} {vals:List Nat} (hb:NoBang m.clauses) (hv:∀ i,vals.getD i 0=0) (hR:0<m.rels.length) {Fs Fs':Nat→List Nat→Prop} (hF:∀ i l,Fs i l→Fs' i l) {rk rk':Nat→List Nat→Option Nat} (h1:LaysP m vals Fs (fun _ _=>none) m.rels.length rk) (h2:LaysP m vals Fs' rk m.rels.length rk'):(∀ i l r,rk i l=some r→∃ r',r'≤r∧rk' i l=some r')∧∀ i l,i<m.rels.length→Fs' i l→rk' i l=some 0:=by
 obtain ⟨b,eb⟩:∃ b,m.rels.length=b+1:=⟨m.rels.length - 1,by omega⟩;have hb':NoBang (m.clauses.filter fQD):=fun c hc=>hb c (List.mem_filter.1 hc).1;have h1':=h1;have h2':=h2;rw [eb] at h1' h2';obtain ⟨T1,t1⟩:=nQH hv (fun _ _ _=>rfl) b h1';have hout:∀ i l,m.rels.length≤i→rk i l=none:=fun i l hi=>by
  rw [t1 T1 (Nat.le_refl _),nv_out T1 l hi];unfold base0;rw [if_neg (by omega)]
 obtain ⟨T2,t2⟩:=nQH hv hout b h2';have e1:=t1 (max T1 T2) (Nat.le_max_left _ _);have e2:=t2 (max T1 T2) (Nat.le_max_right _ _);rw [e1,e2];refine ⟨fun i l r hr=>?_,fun i l hi hf=>nv_from (base0_some hi hf) _⟩;refine nv_mono hb' base0_zero base0_zero (fun i l hs=>?_) _ i l r hr;by_cases hi:i<m.rels.length
 ·by_cases hf:Fs i l
  ·rw [base0_some hi (hF i l hf)];rfl
  ·unfold base0 fQJ at hs;simp [hi,hf] at hs
 ·unfold base0 at hs;simp [hi] at hs
end
section
open Go.RowKit
theorem termsS_const {m:Mean} {z:Int} (hz:∀ d,m.size d≤z):∀ (ts:List Tn) (ds:List Nat) {sc sc':aQB} {xs:List uQA},kQE m sc ts ds=.ok (xs,sc')→∀ x∈xs,x.isVar=false→x.num<z
 | [],_,_,_,xs,h,x,hx,_=>by simp [kQE] at h;obtain ⟨rfl,_⟩:=h;cases hx
 | _ :: _,[],_,_,xs,h,x,hx,_=>by simp [kQE] at h;obtain ⟨rfl,_⟩:=h;cases hx
 | t :: ts,d :: ds,sc,sc',xs,h,x,hx,hv=>by
  unfold kQE at h;split at h
  ·cases h
  rename_i y sc1 hy;split at h
  ·cases h
  rename_i ys sc2 hys;cases h;rcases List.mem_cons.1 hx with rfl | hx
  ·unfold termS at hy;split at hy
   ·split at hy
    ·split at hy
     ·cases hy
     ·cases hy;cases hv
    ·split at hy
     ·cases hy
     ·cases hy;cases hv
   ·split at hy
    ·cases hy
    ·cases hy;have:=hz d;dsimp only;omega
  ·exact termsS_const hz ts ds hys x hx hv
theorem baseM_size {z:Nat} {cs:List iQA} (d:Nat):(baseM z cs).size d≤(z:Int):=by
 match d with
 | 0=>exact Int.le_refl _
 | d+1=>show (0:Int)≤z;omega
def HeadIn (z:Nat) (cs:List iQA):Prop:=∀ c∈cs,∀ t∈c.head.terms,t.isVar=false→t.num<z
theorem clauses_in {z:Nat}:∀ (is:List vQB),(∀ i∈is,∃ h ls,i=.clause h ls)→∀ {cs:List iQA} {m:Mean},xQB (baseM z cs) is=.ok m→HeadIn z cs→HeadIn z m.clauses
 | [],_,cs,m,h,hb=>by simp [xQB] at h;subst h;exact hb
 | i :: is,hi,cs,m,h,hb=>by
  obtain ⟨hd,ls,rfl⟩:=hi i (by simp);unfold xQB nQD at h;dsimp only at h;unfold addClause at h;split at h
  ·cases h
  rename_i m1 h1;split at h1
  ·cases h1
  split at h1
  ·cases h1
  rename_i x sc hx;split at h1
  ·cases h1
  rename_i hr;cases h1;refine clauses_in is (fun j hj=>hi j (by simp [hj])) (cs:=cs++_) h ?_;intro c hc t ht hv;rcases List.mem_append.1 hc with hc | hc
  ·exact hb c hc t ht hv
  ·simp only [List.mem_singleton] at hc;subst hc;unfold wQL at hx;split at hx
   ·cases hx
   split at hx
   ·cases hx
   split at hx
   ·cases hx
   rename_i hts;cases hx;exact termsS_const baseM_size _ _ hts t ht hv
theorem readS_later {s:ByteArray} {toks:List Tn} {m:Mean} (h:pQE s=.ok (toks,m)):∀ c∈m.clauses,lQF c=false:=by
 unfold pQE at h;split at h
 ·cases h
 split at h
 ·cases h
 split at h
 ·cases h
 split at h
 ·cases h
 split at h
 ·cases h
 rename_i hl;cases h;unfold laterS at hl;split at hl
 ·cases hl
 rename_i hf;exact firstC_none hf
theorem safe_in {c:iQA} (hs:lQF c=false) {t:uQA} (ht:t∈c.head.terms) (hv:t.isVar=true):∃ a∈c.lits,a.2=false∧∃ u∈a.1.terms,u.isVar=true∧u.num=t.num:=by
 unfold lQF at hs;rw [List.any_eq_false] at hs
 have h1:=hs t.num (by
  unfold askedM iQI
  exact List.mem_append.2 (.inl (List.mem_map.2 ⟨t,List.mem_filter.2 ⟨ht,hv⟩,rfl⟩)))
 simp only [Bool.not_eq_true',decide_eq_false_iff_not,Decidable.not_not] at h1;unfold boundM iQI at h1;obtain ⟨a,ha,hn⟩:=List.mem_flatMap.1 h1;obtain ⟨ha1,ha2⟩:=List.mem_filter.1 ha;obtain ⟨u,hu,e⟩:=List.mem_map.1 hn;obtain ⟨hu1,hu2⟩:=List.mem_filter.1 hu;exact ⟨a,ha1,by simpa using ha2,u,hu1,hu2,e⟩
theorem nv_in {cs:List iQA} {n z:Nat} (hz:1≤z) (hh:HeadIn z cs) (hs:∀ c∈cs,lQF c=false) {rk0:Nat→List Nat→Option Nat} (h0:∀ i l,(rk0 i l).isSome=true→∀ x∈l,x<z):∀ (t i:Nat) (l:List Nat),(nv cs n rk0 t i l).isSome=true→∀ x∈l,x<z
 | 0,i,l,h=>h0 i l h
 | t+1,i,l,h=>by
  have ih:=nv_in (n:=n) hz hh hs h0 t;simp only [nv] at h;split at h
  ·rename_i hc;obtain ⟨c,hcm,e,ν,hν,hl,ht⟩:=hc.2.2;intro x hx;rw [←ht] at hx;obtain ⟨u,hu,rfl⟩:=List.mem_map.1 hx;cases hv:u.isVar with
   | false=>
    have:=hh c hcm u hu hv;unfold tvR;rw [hv];simp only [Bool.false_eq_true,if_false];omega
   | true=>
    obtain ⟨a,ha,hn,q,hq,hqv,hqn⟩:=safe_in (hs c hcm) hu hv;have h1:=hl a ha;unfold litH at h1;rw [hn] at h1;simp only [Bool.false_eq_true,if_false] at h1;have h2:=ih _ _ h1 (tvR ν q) (List.mem_map.2 ⟨q,hq,rfl⟩);have e2:tvR ν q=tvR ν u:=by unfold tvR;rw [hqv,hv,hqn]
    rw [←e2];exact h2
  ·exact ih i l h
theorem rk_in {m:Mean} {vals:List Nat} {z:Nat} (hz:1≤z) (hv:∀ i,vals.getD i 0=0) (hh:HeadIn z m.clauses) (hs:∀ c∈m.clauses,lQF c=false) (hR:0<m.rels.length) {rk:Nat→List Nat→Option Nat} (h:LaysP m vals (lQD m.clauses) (fun _ _=>none) m.rels.length rk) {i:Nat} {l:List Nat} (hl:(rk i l).isSome=true):∀ x∈l,x<z:=by
 obtain ⟨b,eb⟩:∃ b,m.rels.length=b+1:=⟨m.rels.length - 1,by omega⟩;have h':=h;rw [eb] at h';obtain ⟨T,hT⟩:=nQH hv (fun _ _ _=>rfl) b h';rw [hT T (Nat.le_refl _)] at hl;refine nv_in hz (fun c hc=>hh c (List.mem_filter.1 hc).1) (fun c hc=>hs c (List.mem_filter.1 hc).1) (fun i l hq x hx=>?_) T i l hl;have hf:lQD m.clauses i l:=by
  unfold base0 fQJ at hq;by_cases hi:i<m.rels.length
  ·by_cases hf:lQD m.clauses i l
   ·exact hf
   ·simp [hi,hf] at hq
  ·simp [hi] at hq
 obtain ⟨c,hcm,hnl,e,ν,hν,ht⟩:=hf;rw [←ht] at hx;obtain ⟨u,hu,rfl⟩:=List.mem_map.1 hx;cases hvu:u.isVar with
 | false=>
  have:=hh c hcm u hu hvu;unfold tvR;rw [hvu];simp only [Bool.false_eq_true,if_false];omega
 | true=>
  obtain ⟨a,ha,_⟩:=safe_in (hs c hcm) hu hvu;rw [hnl] at ha;cases ha
theorem prog_in {z:Nat} (h1:1≤z) (h8:z≤8) {nm:List UInt8} (hn:NmOk nm) {back:Bool} {rs:List RawR} {fs:List RawF} (hno:NoNot rs) {toks:List Tn} {m:Mean} (hR:pQE (ba (jQA (oQF z nm back rs fs)))=.ok (toks,m)):HeadIn z m.clauses:=by
 have h:=prog_read h1 h8 hn hR;unfold progI at h;rw [List.append_assoc,senseS_app,headJ_sense h1 h8] at h;dsimp only at h;refine clauses_in _ (fun i hi=>?_) h (fun c hc=>by cases hc);rcases List.mem_append.1 hi with hi | hi
 ·obtain ⟨a,b,c,_⟩:=rulesI_no z nm back rs 2 hno i hi;exact ⟨a,b,c⟩
 ·obtain ⟨a,b,c,_⟩:=factsI_no z fs _ i hi;exact ⟨a,b,c⟩
theorem tup_in {z:Nat} {cs:List iQA} {k:Nat} (hk:k<4) {l:List Nat} (hl:l.length=relK k) (hx:∀ x∈l,x<z):TupOk (baseM z cs) k l:=by
 have hc:∃ nm,(baseM z cs).rels[k]?=some (nm,List.replicate (relK k) 0):=by
  have:k=0∨k=1∨k=2∨k=3:=by omega
  rcases this with rfl | rfl | rfl | rfl <;> exact ⟨_,rfl⟩
 obtain ⟨nm,hc⟩:=hc;refine ⟨⟨nm,_,hc,by rw [List.length_replicate];exact hl,fun p x d hp hd=>?_⟩⟩;have hd0:d=0:=by
  have:=List.mem_of_getElem? hd;exact (List.mem_replicate.1 this).2
 subst hd0;show (x:Int)<(z:Int);have:=hx x (List.mem_of_getElem? hp);omega
theorem rel_at {z:Nat} {cs:List iQA} {k:Nat} (hk:k<4):(baseM z cs).rels[k]?=some (relN k,List.replicate (relK k) 0)∧bQD ((baseM z cs).rels.map Prod.fst) (relN k)=some k:=by
 have:k=0∨k=1∨k=2∨k=3:=by omega
 rcases this with rfl | rfl | rfl | rfl <;> exact ⟨rfl,by show bQD (relsW.map Prod.fst) _=_;decide⟩
end
section
open Go.RowKit Go.Shelf
attribute [local go_sem] Oper.semAt_some
theorem nQB {w w':World} {T:List Nat} (k:aQA T w w') {a:Addr} {v:Value} (h:w.cell? a=some v) (ha:a.block∉T):w'.cell? a=some v:=by
 have hb:=World.block_lt_of_cell? w _ h;rw [←h];simp [World.cell?,k.block _ hb ha]
theorem cQL.keeps {w w':World} {av:Option Addr} {L:List Int} (h:cQL w av L) (k:aQA [] w w'):cQL w' av L:=fun i x hx=>⟨(h i x hx).1,(h i x hx).2.1,h.at k hx⟩
structure LitAt (w:World) (g o:Nat) (l:RawL):Prop where
 c0:w.cell? ⟨g,o,none⟩=some (.int .i64 l.rel)
 c1:w.cell? ⟨g,o+1,none⟩=some (.bool l.no)
 c2:w.cell? ⟨g,o+2,none⟩=some (.slice l.av l.L.length l.cap)
theorem LitAt.keeps {w w':World} {g o:Nat} {l:RawL} {T:List Nat} (h:LitAt w g o l) (k:aQA T w w') (hg:g∉T):LitAt w' g o l:=⟨nQB k h.c0 hg,nQB k h.c1 hg,nQB k h.c2 hg⟩
structure LitOk (w:World) (l:RawL):Prop where
 lo:-9223372036854775808≤l.rel
 hi:l.rel≤9223372036854775807
 ints:cQL w l.av l.L
theorem LitOk.keeps {w w':World} {l:RawL} (h:LitOk w l) (k:aQA [] w w'):LitOk w' l:=⟨h.lo,h.hi,h.ints.keeps k⟩
def LitsIn (w:World) (av:Option Addr) (ls:List RawL):Prop:=∀ (i:Nat) (l:RawL),ls[i]?=some l→LitOk w l∧∃ g o,av=some ⟨g,o,none⟩∧LitAt w g (o+i * 3) l
theorem LitsIn.keeps {w w':World} {av:Option Addr} {ls:List RawL} (h:LitsIn w av ls) (k:aQA [] w w'):LitsIn w' av ls:=fun i l hl=>by
 obtain ⟨a,g,o,e,b⟩:=h i l hl;exact ⟨a.keeps k,g,o,e,b.keeps k (by simp)⟩
def ruA (z:Nat) (nm:List UInt8) (h:RawL) (ls:List RawL):ByteArray:=ba (jQA (dQF z nm h++dQJ z nm ls))
theorem ruA_first {z:Nat} {nm:List UInt8} {h l:RawL}:(l.no=false→ruA z nm h []++ba [32,58,45,32]++ba (jQA (dQF z nm l))=ruA z nm h [l])∧(l.no=true→ruA z nm h []++ba [32,58,45,32]++ba [33]++ba (jQA (dQF z nm l))=ruA z nm h [l]):=by
 unfold ruA;refine ⟨fun e=>?_,fun e=>?_⟩
 ·rw [gQD,gQD];simp [dQJ,litP,e,pQF,jQA,pcB,tokB,txt]
 ·rw [gQD,gQD,gQD];simp [dQJ,litP,e,pQF,jQA,pcB,tokB,txt]
theorem ruA_more {z:Nat} {nm:List UInt8} {h l:RawL} {ls:List RawL} (hne:ls≠[]):(l.no=false→ruA z nm h ls++ba [44,32]++ba (jQA (dQF z nm l))=ruA z nm h (ls++[l]))∧(l.no=true→ruA z nm h ls++ba [44,32]++ba [33]++ba (jQA (dQF z nm l))=ruA z nm h (ls++[l])):=by
 cases ls with
 | nil=>exact absurd rfl hne
 | cons a ls=>
  unfold ruA;refine ⟨fun e=>?_,fun e=>?_⟩
  ·rw [gQD,gQD];simp [dQJ,litP,e,pQF,jQA,pcB,tokB,txt]
  ·rw [gQD,gQD,gQD];simp [dQJ,litP,e,pQF,jQA,pcB,tokB,txt]
theorem ruA_end (z:Nat) (nm:List UInt8) (h:RawL) (ls:List RawL):ruA z nm h ls++ba [46]=ba (jQA (sQH z nm h ls)):=by
 unfold ruA sQH;rw [gQD,nQA _ [.t .dot]];rfl
theorem ruA_size (z:Nat) (nm:List UInt8) (h:RawL) (ls:List RawL):(ruA z nm h ls).size≤12+17 * ls.length:=by
 unfold ruA;rw [eQD,nQA,List.length_append];have h1:=atomP_len z nm h;have h2:=bodyP_len z nm ls;omega
theorem rule42_calls (w:World) {h:RawL} (hh:LitOk w h) {ad:Option Addr} {ls:List RawL} {bc:Nat} (hls:LitsIn w ad ls) {z:Nat} (hz:1≤z) (hz8:z≤8) {nm:List UInt8} (hn4:nm.length=4):Calls prog 42 #[.agg #[.int .i64 h.rel,.bool h.no,.slice h.av h.L.length h.cap,.slice ad ls.length bc],.int .i64 (z:Int),.string (ba nm),.bool false] w fun e w'=>e=.returned (.string (ba (jQA (sQH z nm h (ls.take 4)))))∧aQA [] w w':=by
 obtain ⟨M,hM⟩:∃ M,ls.length=M:=⟨_,rfl⟩;obtain ⟨n,hn⟩:∃ n,(n=4∧4<M)∨(n=M∧¬ 4<M):=by
  by_cases h:4<M
  ·exact ⟨4,.inl ⟨rfl,h⟩⟩
  ·exact ⟨M,.inr ⟨rfl,h⟩⟩
 have htk:ls.take 4=ls.take n:=by
  rcases hn with ⟨h1,_⟩ | ⟨h1,h2⟩
  ·rw [h1]
  ·rw [List.take_of_length_le (by omega),List.take_of_length_le (by omega)]
 rw [htk];clear htk;have HM:=hide hM;rw [hM];clear hM;have kF:=aQA.alloc [] w (.cells #[.int .i64 h.rel,.bool h.no,.slice h.av h.L.length h.cap,.slice ad M bc] 62);have hF:=cQA.new w #[.int .i64 h.rel,.bool h.no,.slice h.av h.L.length h.cap,.slice ad M bc] 62;have d0:=hF.cell 0;have d1:=hF.cell 1;have d2:=hF.cell 2;have d3:=hF.cell 3;simp at d0 d1 d2 d3;have hat:=hide (fun (W:World) (k:aQA [] w W) (l:RawL) (hl:LitOk w l)=>atom82_calls W l.rel l.no (cap:=l.cap) hl.lo hl.hi (hl.ints.keeps k) hz hz8 hn4);have ha0:=hide (fun (W:World) (k:aQA [] w W)=>hat.out W k h hh);have Hend:=hide (ruA_end z nm h (ls.take n));have HA0:Hid (ba (jQA (dQF z nm h))=ruA z nm h []):=hide (by unfold ruA;simp [dQJ]);have Hsz:=hide (ruA_size z nm h);have Hf1:=hide (fun l=>ruA_first (z:=z) (nm:=nm) (h:=h) (l:=l));have Hm1:=hide (fun l ls hne=>ruA_more (z:=z) (nm:=nm) (h:=h) (l:=l) (ls:=ls) hne);rw [HA0.out] at ha0;rw [←Hend.out];have HF:=hide hF;have KF:=hide kF;have Hls:=hide hls;clear hF kF hh hls hn4 HA0 Hend;have e1:({ data:=#[32,58,45,32] }:ByteArray)=ba [32,58,45,32]:=rfl;have e2:({ data:=#[44,32] }:ByteArray)=ba [44,32]:=rfl;have e3:({ data:=#[33] }:ByteArray)=ba [33]:=rfl;have e4:({ data:=#[46] }:ByteArray)=ba [46]:=rfl;go_enter func42,ntmps42
 simp only [e1,e2,e3,e4];clear e1 e2 e3 e4;generalize hp1:ba [32,58,45,32]=t1 at *;generalize hp2:ba [44,32]=t2 at *;generalize hp3:ba [33]=t3 at *;generalize hp4:ba [46]=t4 at *;have s1:t1.size=4:=by rw [←hp1];rfl
 have s2:t2.size=2:=by rw [←hp2];rfl
 have s3:t3.size=1:=by rw [←hp3];rfl
 have s4:t4.size=1:=by rw [←hp4];rfl
 clear hp1 hp2 hp3 hp4;generalize ba nm=NM at *;go_wp2_with fail
 refine (ha0.out _ KF.out).mono ?_;rintro e W1 ⟨rfl,k1⟩;have q3:=(HF.out.keeps k1 (by simp)).cell 3;simp at q3;clear d0 d1 d2 d3;have K1:=hide (KF.out.trans k1);have HF1:=hide (HF.out.keeps k1 (by simp));clear k1 KF HF;have Hn:=hide hn;by_cases h4:4<M
 all_goals
  first | have h4I:(4:Int)<M:=by omega | have h4I:¬ (4:Int)<M:=by omega
  clear hn;go_wp2_with fail
  go_loopw [9,11] (fun y q wr=>∃ (i:Nat),y=.string (ruA z nm h (ls.take i))∧q=.int .i64 i∧i≤n∧aQA [] W1 wr) (fun _ q _=>((n:Int) - intOf q).toNat)
  case atStart=>exact ⟨0,rfl,rfl,by omega,aQA.refl _ _⟩
  case round=>
   obtain ⟨i,rfl,rfl,hi,hkw⟩:=hrel;have hszl:(ls.take i).length=i:=by rw [List.length_take,Nat.min_eq_left (by have:=HM.out;have:=Hn.out;omega)]
   have hsz8:(ruA z nm h (ls.take i)).size≤80:=by have:=Hsz.out (ls.take i);have:=Hn.out;omega
   have q4:=(HF1.out.keeps hkw (by simp)).cell 3;simp at q4;by_cases hin:i<n
   ·have hiI:(i:Int)<4:=by have:=Hn.out;omega
    have hiM:(i:Int)<M:=by have:=Hn.out;omega
    obtain ⟨l,hl⟩:∃ l,ls[i]?=some l:=⟨_,List.getElem?_eq_getElem (by have:=HM.out;have:=Hn.out;omega)⟩;obtain ⟨lok,g,o,had,hla⟩:=Hls.out i l hl;subst had;have hl2:=hla.keeps (K1.out.trans hkw) (by simp);have p0:=hl2.c0;have p1:=hl2.c1;have p2:=hl2.c2;have hal:=hide (fun (W:World) (k:aQA [] w W)=>hat.out W k l lok);have htk:ls.take (i+1)=ls.take i++[l]:=by rw [List.take_add_one,hl];rfl
    have sal:(ba (jQA (dQF z nm l))).size≤12:=by rw [eQD];exact atomP_len z nm l
    have kC:=aQA.alloc [] wr (.cells #[.int .i64 l.rel,.bool l.no,.slice l.av l.L.length l.cap] 59);have KC:=hide ((K1.out.trans hkw).trans kC);have KW:=hide (hkw.trans kC);have G1:Hid (i=0→(l.no=false→ruA z nm h (ls.take i)++t1++ba (jQA (dQF z nm l))=ruA z nm h (ls.take (i+1)))∧(l.no=true→ruA z nm h (ls.take i)++t1++t3++ba (jQA (dQF z nm l))=ruA z nm h (ls.take (i+1)))):=hide (fun e=>by subst e;rw [htk];exact Hf1.out l);have G2:Hid (0<i→(l.no=false→ruA z nm h (ls.take i)++t2++ba (jQA (dQF z nm l))=ruA z nm h (ls.take (i+1)))∧(l.no=true→ruA z nm h (ls.take i)++t2++t3++ba (jQA (dQF z nm l))=ruA z nm h (ls.take (i+1)))):=hide (fun e=>by rw [htk];exact Hm1.out l (ls.take i) (by intro q;rw [q] at hszl;simp at hszl;omega));obtain ⟨lr,ln,lav,lL,lc⟩:=l;clear hla hl2 hl kC htk hkw lok hszl;dsimp only at *;generalize ba (jQA (dQF z nm ⟨lr,ln,lav,lL,lc⟩))=tk at *;rcases Nat.eq_zero_or_pos i with hi0 | hi0
    ·have g:=G1.out hi0;subst hi0;simp only [Nat.zero_mul,Nat.add_zero] at p0 p1 p2;generalize ruA z nm h (ls.take 0)=tt at *;cases ln with
     | false=>
      have Hg:=hide (g.1 rfl);clear g G1 G2;go_wp2_with fail
      refine (hal.out _ KC.out).mono ?_;rintro e W5 ⟨rfl,k5⟩;go_wp2_with fail
      exact ⟨⟨1,by rw [←Hg.out],by simp,by omega,KW.out.trans k5⟩,by simp only [intOf];omega⟩
     | true=>
      have Hg:=hide (g.2 rfl);clear g G1 G2;go_wp2_with fail
      refine (hal.out _ KC.out).mono ?_;rintro e W5 ⟨rfl,k5⟩;go_wp2_with fail
      exact ⟨⟨1,by rw [←Hg.out],by simp,by omega,KW.out.trans k5⟩,by simp only [intOf];omega⟩
    ·have g:=G2.out hi0;have hi0I:¬ (i:Int)=0:=(by omega);generalize ruA z nm h (ls.take i)=tt at *;cases ln with
     | false=>
      have Hg:=hide (g.1 rfl);clear g G1 G2;go_wp2_with fail
      refine (hal.out _ KC.out).mono ?_;rintro e W5 ⟨rfl,k5⟩;go_wp2_with fail
      exact ⟨⟨i+1,by rw [←Hg.out],by simp,by omega,KW.out.trans k5⟩,by simp only [intOf];omega⟩
     | true=>
      have Hg:=hide (g.2 rfl);clear g G1 G2;go_wp2_with fail
      refine (hal.out _ KC.out).mono ?_;rintro e W5 ⟨rfl,k5⟩;go_wp2_with fail
      exact ⟨⟨i+1,by rw [←Hg.out],by simp,by omega,KW.out.trans k5⟩,by simp only [intOf];omega⟩
   ·have hin2:i=n:=(by omega);subst hin2;try have hiA:¬ (i:Int)<4:=by have:=Hn.out;omega
    try have hiB:¬ (i:Int)<M:=by have:=Hn.out;omega
    go_wp2_with fail
    go_ret
    exact ⟨rfl,K1.out.trans hkw⟩
end
section
open Go.RowKit Go.Shelf
attribute [local go_sem] Oper.semAt_some
structure RuleAt (w:World) (g o:Nat) (r:RawR):Prop where
 c0:w.cell? ⟨g,o,none⟩=some (.int .i64 r.head.rel)
 c1:w.cell? ⟨g,o+1,none⟩=some (.bool r.head.no)
 c2:w.cell? ⟨g,o+2,none⟩=some (.slice r.head.av r.head.L.length r.head.cap)
 c3:w.cell? ⟨g,o+3,none⟩=some (.slice r.ad r.body.length r.bc)
theorem RuleAt.keeps {w w':World} {g o:Nat} {r:RawR} {T:List Nat} (h:RuleAt w g o r) (k:aQA T w w') (hg:g∉T):RuleAt w' g o r:=⟨nQB k h.c0 hg,nQB k h.c1 hg,nQB k h.c2 hg,nQB k h.c3 hg⟩
structure RuleOk (w:World) (r:RawR):Prop where
 head:LitOk w r.head
 body:LitsIn w r.ad r.body
def RulesIn (w:World) (av:Option Addr) (rs:List RawR):Prop:=∀ (i:Nat) (r:RawR),rs[i]?=some r→RuleOk w r∧∃ g o,av=some ⟨g,o,none⟩∧RuleAt w g (o+i * 4) r
structure FactAt (w:World) (g o:Nat) (f:RawF):Prop where
 c0:w.cell? ⟨g,o,none⟩=some (.int .i64 f.rel)
 c1:w.cell? ⟨g,o+1,none⟩=some (.slice f.av f.L.length f.cap)
structure FactOk (w:World) (f:RawF):Prop where
 lo:-9223372036854775808≤f.rel
 hi:f.rel≤9223372036854775807
 ints:cQL w f.av f.L
theorem FactOk.keeps {w w':World} {f:RawF} (h:FactOk w f) (k:aQA [] w w'):FactOk w' f:=⟨h.lo,h.hi,h.ints.keeps k⟩
def zQL (w:World) (av:Option Addr) (fs:List RawF):Prop:=∀ (i:Nat) (f:RawF),fs[i]?=some f→FactOk w f∧∃ g o,av=some ⟨g,o,none⟩∧FactAt w g (o+i * 2) f
theorem zQL.keeps {w w':World} {av:Option Addr} {fs:List RawF} (h:zQL w av fs) (k:aQA [] w w'):zQL w' av fs:=fun i f hf=>by
 obtain ⟨a,g,o,e,b⟩:=h i f hf;exact ⟨a.keeps k,g,o,e,nQB k b.c0 (by simp),nQB k b.c1 (by simp)⟩
def pgA (z:Nat) (nm:List UInt8) (rs:List RawR):ByteArray:=ba (jQA (headG z++rs.flatMap (lQI z nm false)))
def pgB (z:Nat) (nm:List UInt8) (rs:List RawR) (fs:List RawF):ByteArray:=ba (jQA (oQF z nm false rs fs))
theorem pgA_start (z:Nat) (nm:List UInt8):ba (jQA (headG z))=pgA z nm []:=by unfold pgA;simp
theorem pgA_rule {z:Nat} {nm:List UInt8} {rs:List RawR} {r:RawR} (h:r.body≠[]):pgA z nm rs++ba (jQA (sQH z nm r.head (r.body.take 4)))++ba [10]=pgA z nm (rs++[r]):=by
 have e:lQI z nm false r=sQH z nm r.head (r.body.take 4)++[.nl]:=by
  unfold lQI;rw [if_neg (by simpa using h)];rfl
 unfold pgA;rw [gQD,gQD,List.flatMap_append,List.flatMap_cons,List.flatMap_nil,List.append_nil,e,←List.append_assoc,nQA (headG z++_),nQA (sQH z nm r.head (r.body.take 4)),List.append_assoc];rfl
theorem pgA_none {z:Nat} {nm:List UInt8} {rs:List RawR} {r:RawR} (h:r.body=[]):pgA z nm rs=pgA z nm (rs++[r]):=by
 unfold pgA;rw [List.flatMap_append,List.flatMap_cons,List.flatMap_nil,List.append_nil];unfold lQI;rw [h];simp
theorem pgB_start (z:Nat) (nm:List UInt8) (rs:List RawR):pgA z nm rs=pgB z nm rs []:=by unfold pgA pgB oQF;simp
theorem pgB_next (z:Nat) (nm:List UInt8) (rs:List RawR) (fs:List RawF) (f:RawF):pgB z nm rs fs++ba (jQA (jQH (kOf f.rel) (jQE z f.L (kOf f.rel))))++ba [10]=pgB z nm rs (fs++[f]):=by
 unfold pgB oQF;rw [gQD,gQD,List.flatMap_append,List.flatMap_cons,List.flatMap_nil,List.append_nil,←List.append_assoc,nQA (_++fs.flatMap _)];unfold factQ;rw [nQA (jQH _ _),List.append_assoc];rfl
theorem rules_blen (z:Nat) (nm:List UInt8) (rs:List RawR):(jQA (rs.flatMap (lQI z nm false))).length≤100 * rs.length:=by
 induction rs with
 | nil=>exact Nat.le_refl _
 | cons r rs ih=>
  rw [List.flatMap_cons,nQA,List.length_append,List.length_cons];have:=ruleQ_len z nm false r;omega
theorem facts_blen (z:Nat) (fs:List RawF):(jQA (fs.flatMap (factQ z))).length≤20 * fs.length:=by
 induction fs with
 | nil=>exact Nat.le_refl _
 | cons f fs ih=>
  rw [List.flatMap_cons,nQA,List.length_append,List.length_cons];have:(jQA (factQ z f)).length≤20:=by
   unfold factQ;rw [nQA,List.length_append];have h1:=factP_len (kOf f.rel) z f.L;have h2:(jQA [.nl]).length=1:=rfl;omega
  omega
theorem pgA_size (z:Nat) (nm:List UInt8) (rs:List RawR):(pgA z nm rs).size≤61+100 * rs.length:=by
 unfold pgA;rw [eQD,nQA,List.length_append];have h1:=rules_blen z nm rs;have h2:(jQA (headG z)).length=61:=rfl;omega
theorem pgB_size (z:Nat) (nm:List UInt8) (rs:List RawR) (fs:List RawF):(pgB z nm rs fs).size≤61+100 * rs.length+20 * fs.length:=by
 unfold pgB oQF;rw [eQD,nQA,nQA,List.length_append,List.length_append];have h1:=rules_blen z nm rs;have h3:=facts_blen z fs;have h2:(jQA (headG z)).length=61:=rfl;omega
theorem program20_calls (w:World) {ra:Option Addr} {rs:List RawR} {rc:Nat} (hrs:RulesIn w ra rs) (hrl:rs.length≤10000000000000) {fa:Option Addr} {fs:List RawF} {fc:Nat} (hfs:zQL w fa fs) (hfl:fs.length≤10000000000000) {z:Nat} (hz:1≤z) (hz8:z≤8) {nm:List UInt8} (hn4:nm.length=4):Calls prog 20 #[.int .i64 (z:Int),.slice ra rs.length rc,.slice fa fs.length fc,.string (ba nm),.bool false] w fun e w'=>e=.returned (.string (ba (jQA (oQF z nm false rs fs))))∧aQA [] w w':=by
 have hru:=hide (fun (W:World) (k:aQA [] w W) (r:RawR) (hr:RuleOk w r)=>rule42_calls (bc:=r.bc) W (hr.head.keeps k) (hr.body.keeps k) hz hz8 hn4);have hhd:=hide (head41_calls w (z:=z) (by omega));rw [pgA_start z nm] at hhd;have hft:=hide (fun (W:World) (k:aQA [] w W) (f:RawF) (hf:FactOk w f)=>fact24_calls W (cap:=f.cap) hf.lo hf.hi (hf.ints.keeps k) hz hz8 (kOf_eq f.rel) (kOf_lt f.rel));rw [show ba (jQA (oQF z nm false rs fs))=pgB z nm rs fs from rfl];have Hrs:=hide hrs;have Hfs:=hide hfs;clear hrs hfs hn4;have e1:({ data:=#[10] }:ByteArray)=ba [10]:=rfl;go_enter func20,ntmps20
 simp only [e1];clear e1;obtain ⟨t1,hp1⟩:∃ t,ba [10]=t:=⟨_,rfl⟩;rw [hp1];have s1:t1.size=1:=by rw [←hp1];rfl
 have P1:=hide hp1;clear hp1;generalize ba nm=NM at *;obtain ⟨R,hR⟩:∃ R,rs.length=R:=⟨_,rfl⟩;obtain ⟨F,hF⟩:∃ F,fs.length=F:=⟨_,rfl⟩;have HR:=hide hR;have HF:=hide hF;rw [hR] at hrl ⊢;rw [hF] at hfl ⊢;clear hR hF;go_wp2_with fail
 refine hhd.out.mono ?_;rintro e W1 ⟨rfl,e1⟩;subst e1;go_wp2_with fail
 go_loopw [11,12] (fun y q wr=>∃ (i:Nat),y=.string (pgA z nm (rs.take i))∧q=.int .i64 i∧i≤R∧aQA [] W1 wr) (fun _ q _=>((R:Int) - intOf q).toNat)
 case atStart=>exact ⟨0,rfl,rfl,by omega,aQA.refl _ _⟩
 case round=>
  obtain ⟨i,rfl,rfl,hi,hkw⟩:=hrel;have hszl:(rs.take i).length=i:=by rw [List.length_take,Nat.min_eq_left (by have:=HR.out;omega)]
  have hsz8:(pgA z nm (rs.take i)).size≤61+100 * i:=by have:=pgA_size z nm (rs.take i);omega
  by_cases hin:i<R
  ·have hiI:(i:Int)<R:=(by omega);obtain ⟨r,hr⟩:∃ r,rs[i]?=some r:=⟨_,List.getElem?_eq_getElem (by have:=HR.out;omega)⟩;obtain ⟨rok,g,o,had,hra⟩:=Hrs.out i r hr;subst had;have hr2:=hra.keeps hkw (by simp);have p0:=hr2.c0;have p1:=hr2.c1;have p2:=hr2.c2;have p3:=hr2.c3;have kC:=aQA.alloc [] wr (.cells #[.int .i64 r.head.rel,.bool r.head.no,.slice r.head.av r.head.L.length r.head.cap,.slice r.ad r.body.length r.bc] 62);have hal:=hide (fun (W:World) (k:aQA [] W1 W)=>hru.out W k r rok);have htk:rs.take (i+1)=rs.take i++[r]:=by rw [List.take_add_one,hr];rfl
   have G1:Hid (r.body≠[]→pgA z nm (rs.take i)++ba (jQA (sQH z nm r.head (r.body.take 4)))++t1=pgA z nm (rs.take (i+1))):=hide (fun e=>by rw [htk,←P1.out];exact pgA_rule e);have G2:Hid (r.body=[]→pgA z nm (rs.take i)=pgA z nm (rs.take (i+1))):=hide (fun e=>by rw [htk];exact pgA_none e);have KC:=hide (hkw.trans kC);have hq:=ruleQ_len z nm false r;have hq2:r.body≠[]→(ba (jQA (sQH z nm r.head (r.body.take 4)))).size≤100:=fun e=>by
    unfold lQI at hq;rw [if_neg (by simpa using e),nQA,List.length_append] at hq;rw [eQD];exact Nat.le_trans (Nat.le_add_right _ _) hq
   have Hq2:=hide hq2;obtain ⟨bl,hbl⟩:∃ bl,r.body.length=bl:=⟨_,rfl⟩;have Hbl:=hide hbl;rw [hbl] at p3 hal KC;clear hra hr2 hr kC htk hszl hq hq2 rok hbl;by_cases hb:r.body=[]
   ·have hbl:bl=0:=by rw [←Hbl.out,hb];rfl
    subst hbl;have Hg:=hide (G2.out hb);clear G1 G2 hal hb;go_wp2_with fail
    exact ⟨⟨i+1,by rw [←Hg.out],by simp,by omega,KC.out⟩,by simp only [intOf];omega⟩
   ·have hbl:(0:Int)<(bl:Int):=by have:=List.length_pos_iff.2 hb;have:=Hbl.out;omega
    have Hg:=hide (G1.out hb);have hq:=Hq2.out hb;clear G1 G2 hb Hq2;generalize ba (jQA (sQH z nm r.head (r.body.take 4)))=tk at *;generalize pgA z nm (rs.take i)=tt at *;go_wp2_with fail
    refine (hal.out _ KC.out).mono ?_;rintro e W5 ⟨rfl,k5⟩;go_wp2_with fail
    exact ⟨⟨i+1,by rw [←Hg.out],by simp,by omega,KC.out.trans k5⟩,by simp only [intOf];omega⟩
  ·have hiI:¬ (i:Int)<R:=(by omega);have hiR:i=R:=(by omega);subst hiR;have hgt:rs.take i=rs:=by rw [List.take_of_length_le (by have:=HR.out;omega)]
   rw [hgt];rw [hgt] at hsz8;clear hgt hszl hsz8;go_wp2_with fail
   rename World=>Wz;go_loopw [11,14] (fun y q wr=>∃ (j:Nat),y=.string (pgB z nm rs (fs.take j))∧q=.int .i64 j∧j≤F∧aQA [] W1 wr) (fun _ q _=>((F:Int) - intOf q).toNat)
   case atStart=>exact ⟨0,by rw [pgB_start];rfl,rfl,by omega,hkw⟩
   case round=>
    obtain ⟨j,rfl,rfl,hj,hkr⟩:=hrel;have hszl:(fs.take j).length=j:=by rw [List.length_take,Nat.min_eq_left (by have:=HF.out;omega)]
    have hsz8:(pgB z nm rs (fs.take j)).size≤61+100 * i+20 * j:=by have:=pgB_size z nm rs (fs.take j);rw [HR.out] at this;omega
    by_cases hjn:j<F
    ·have hjI:(j:Int)<F:=(by omega);obtain ⟨f,hf⟩:∃ f,fs[j]?=some f:=⟨_,List.getElem?_eq_getElem (by have:=HF.out;omega)⟩;obtain ⟨fok,g,o,had,hfa⟩:=Hfs.out j f hf;subst had;have p0:=nQB hkr hfa.c0 (by simp);have p1:=nQB hkr hfa.c1 (by simp);have kC:=aQA.alloc [] wr (.cells #[.int .i64 f.rel,.slice f.av f.L.length f.cap] 51);have hal:=hide (fun (W:World) (k:aQA [] W1 W)=>hft.out W k f fok);have htk:fs.take (j+1)=fs.take j++[f]:=by rw [List.take_add_one,hf];rfl
     have Hg:Hid (pgB z nm rs (fs.take j)++ba (jQA (jQH (kOf f.rel) (jQE z f.L (kOf f.rel))))++t1=pgB z nm rs (fs.take (j+1))):=hide (by rw [htk,←P1.out];exact pgB_next z nm rs _ f);have hq:(ba (jQA (jQH (kOf f.rel) (jQE z f.L (kOf f.rel))))).size≤12:=by rw [eQD];exact factP_len _ _ _
     have KC:=hide (hkr.trans kC);obtain ⟨bl,hbl⟩:∃ bl,f.L.length=bl:=⟨_,rfl⟩;rw [hbl] at p1 hal KC;clear hfa hf kC htk hszl fok hbl;go_wp2_with fail
     refine (hal.out _ KC.out).mono ?_;rintro e W5 ⟨v5,rfl,_,k5⟩;generalize ba (jQA (jQH (kOf f.rel) (jQE z f.L (kOf f.rel))))=tk at *;generalize pgB z nm rs (fs.take j)=tt at *;go_wp2_with fail
     exact ⟨⟨j+1,by rw [←Hg.out],by simp,by omega,KC.out.trans k5⟩,by simp only [intOf];omega⟩
    ·have hjI:¬ (j:Int)<F:=(by omega);have hjF:j=F:=(by omega);subst hjF;have hgt:fs.take j=fs:=by rw [List.take_of_length_le (by have:=HF.out;omega)]
     rw [hgt];go_wp2_with fail
     go_ret
     exact ⟨rfl,hkr⟩
end
section
open Go.RowKit Go.Shelf
theorem flatC_at {α:Type} {f:α→List Value} {n:Nat} (hf:∀ a,(f a).length=n):∀ {l:List α} {i:Nat} {a:α},l[i]?=some a→∀ {q:Nat},q<n→(l.flatMap f)[i * n+q]?=(f a)[q]?
 | [],_,_,h,_,_=>by simp at h
 | b :: l,0,a,h,q,hq=>by
  simp at h;subst h;rw [List.flatMap_cons,Nat.zero_mul,Nat.zero_add,List.getElem?_append_left (by rw [hf];exact hq)]
 | b :: l,i+1,a,h,q,hq=>by
  have ih:=flatC_at hf (l:=l) (i:=i) (a:=a) (by simpa using h) hq;rw [List.flatMap_cons,List.getElem?_append_right (by rw [hf,Nat.add_mul];omega),hf,show (i+1) * n+q - n=i * n+q by rw [Nat.add_mul];omega];exact ih
def litV (l:RawL):List Value:=[.int .i64 l.rel,.bool l.no,.slice l.av l.L.length l.cap]
def litCs (ls:List RawL):List Value:=ls.flatMap litV
def ruleV (r:RawR):List Value:=[.int .i64 r.head.rel,.bool r.head.no,.slice r.head.av r.head.L.length r.head.cap,.slice r.ad r.body.length r.bc]
def ruleCs (rs:List RawR):List Value:=rs.flatMap ruleV
def clr (l:RawL):RawL:={ l with no:=false }
theorem litCs_snoc (ls:List RawL) (l:RawL):litCs (ls++[l])=litCs ls++litV l:=by simp [litCs]
theorem ruleCs_snoc (rs:List RawR) (r:RawR):ruleCs (rs++[r])=ruleCs rs++ruleV r:=by simp [ruleCs]
theorem info59:(prog.info? 59).map (fun i=>(i.zero,i.size,i.bytes))=some (some (.agg #[.int .i64 0,.bool false,.slice none 0 0]),3,40):=by kernel_rfl
theorem info62:(prog.info? 62).map (fun i=>(i.zero,i.size,i.bytes))=some (some (.agg #[.int .i64 0,.bool false,.slice none 0 0,.slice none 0 0]),4,64):=by kernel_rfl
structure PlI (w:World) (b:Nat) (wr:World) (x:Value) (ps:List RawR):Prop where
 row:wr.ownsRow b 62 4 x ps.length (ruleCs ps)
 no:NoNot ps
 head:∀ r∈ps,LitOk w r.head
 lits:∀ r∈ps,∀ l∈r.body,LitOk w l
 body:∀ r∈ps,wr.ownsRow b 59 3 (.slice r.ad r.body.length r.bc) r.body.length (litCs r.body)
theorem PlI.nil (w:World) (b:Nat) (wr:World):PlI w b wr (.slice none 0 0) []:=⟨World.ownsRow_nil ..,(by intro r hr;cases hr),(by intro r hr;cases hr),(by intro r hr;cases hr),(by intro r hr;cases hr)⟩
theorem row_lits {wr:World} {b:Nat} {ad:Option Addr} {ls:List RawL} {c:Nat} (h:wr.ownsRow b 59 3 (.slice ad ls.length c) ls.length (litCs ls)) (hl:∀ l∈ls,LitOk wr l):LitsIn wr ad ls:=fun i l hi=>by
 have hil:=(List.getElem?_eq_some_iff.1 hi).1;obtain ⟨g,rfl⟩:=zQD h (by omega);have at_:∀ q v,q<3→(litV l)[q]?=some v→wr.cell? ⟨g,i * 3+q,none⟩=some v:=fun q v hq hv=>mQA h (by rw [litCs,flatC_at (n:=3) (fun _=>rfl) hi hq];exact hv);refine ⟨hl l (List.mem_of_getElem? hi),g,0,rfl,?_⟩;rw [Nat.zero_add];exact ⟨at_ 0 _ (by omega) rfl,at_ 1 _ (by omega) rfl,at_ 2 _ (by omega) rfl⟩
theorem PlI.rules {w wr:World} {b:Nat} {ad:Option Addr} {ps:List RawR} {n c:Nat} (h:PlI w b wr (.slice ad n c) ps) (k:aQA [] w wr):RulesIn wr ad ps:=fun i r hi=>by
 have hil:=(List.getElem?_eq_some_iff.1 hi).1;obtain ⟨a',c',e⟩:=fQA h.row;injection e with e1 e2 e3;subst e1 e2 e3;obtain ⟨g,rfl⟩:=zQD h.row (by omega);have hm:=List.mem_of_getElem? hi;have at_:∀ q v,q<4→(ruleV r)[q]?=some v→wr.cell? ⟨g,i * 4+q,none⟩=some v:=fun q v hq hv=>mQA h.row (by rw [ruleCs,flatC_at (n:=4) (fun _=>rfl) hi hq];exact hv);refine ⟨⟨(h.head r hm).keeps k,row_lits (h.body r hm) (fun l hl=>(h.lits r hm l hl).keeps k)⟩,g,0,rfl,?_⟩;rw [Nat.zero_add];exact ⟨at_ 0 _ (by omega) rfl,at_ 1 _ (by omega) rfl,at_ 2 _ (by omega) rfl,at_ 3 _ (by omega) rfl⟩
theorem PlI.keeps {w wr w':World} {b:Nat} {x:Value} {ps:List RawR} (h:PlI w b wr x ps) (k:aQA [] wr w'):PlI w b w' x ps:=⟨bQA h.row k (by simp),h.no,h.head,h.lits,fun r hr=>bQA (h.body r hr) k (by simp)⟩
theorem own_tagG {w:World} {base:Nat} {e:TypeId} {size n:Nat} {v:Value} {xs:List Value} (h:w.ownsRow base e size v n xs):∀ i,v.ownBlock=some i→∃ cs,w.heap[i]?=some (.cells cs e (0,0)):=by
 intro i hi;obtain ⟨_,⟨rfl,_⟩ | ⟨g,cap,cur,rfl,hb,hg,_⟩⟩:=h
 ·simp [Value.ownBlock] at hi
 ·simp only [Value.ownBlock,Option.some.injEq] at hi;subst hi;exact ⟨_,hg⟩
theorem PlI.snoc {w W w':World} {b:Nat} {x x':Value} {ps:List RawR} (h:PlI w b W x ps) (k:aQA (ownL x) W w') {r:RawR} (hrow:w'.ownsRow b 62 4 x' (ps.length+1) (ruleCs ps++ruleV r)) (hno:∀ l∈r.body,l.no=false) (hh:LitOk w r.head) (hl:∀ l∈r.body,LitOk w l) (hb:W.ownsRow b 59 3 (.slice r.ad r.body.length r.bc) r.body.length (litCs r.body)):PlI w b w' x' (ps++[r]):=by
 have ap:∀ {q:RawR},W.ownsRow b 59 3 (.slice q.ad q.body.length q.bc) q.body.length (litCs q.body)→w'.ownsRow b 59 3 (.slice q.ad q.body.length q.bc) q.body.length (litCs q.body):=fun {q} hq=>bQA hq k (fun i hi hm=>by
  obtain ⟨c1,e1⟩:=own_tagG hq i hi;obtain ⟨c2,e2⟩:=own_tagG h.row i (by simpa [ownL] using hm);rw [e1] at e2
  cases e2)
 refine ⟨by rw [List.length_append,ruleCs_snoc];exact hrow,fun q hq=>?_,fun q hq=>?_,fun q hq=>?_,fun q hq=>?_⟩
 all_goals
  rcases List.mem_append.1 hq with hq | hq
 ·exact h.no q hq
 ·simp only [List.mem_singleton] at hq;subst hq;exact hno
 ·exact h.head q hq
 ·simp only [List.mem_singleton] at hq;subst hq;exact hh
 ·exact h.lits q hq
 ·simp only [List.mem_singleton] at hq;subst hq;exact hl
 ·exact ap (h.body q hq)
 ·simp only [List.mem_singleton] at hq;subst hq;exact ap hb
theorem lit_cells (W:World) (l:RawL) (t:TypeId):∀ (j:Nat) (u:Value),(litV l)[j]?=some u→(W.alloc (.cells #[.int .i64 l.rel,.bool l.no,.slice l.av l.L.length l.cap] t)).cell? ((⟨W.heap.size,0,none⟩:Addr).add j)=some u:=by
 intro j u hu;rw [Addr.add_lit,Nat.zero_add,(cQA.new W _ t).cell];match j with
 | 0=>simpa [litV] using hu
 | 1=>simpa [litV] using hu
 | 2=>simpa [litV] using hu
 | j+3=>simp [litV] at hu
theorem rule_cells (W:World) (r:RawR) (t:TypeId):∀ (j:Nat) (u:Value),(ruleV r)[j]?=some u→(W.alloc (.cells #[.int .i64 r.head.rel,.bool r.head.no,.slice r.head.av r.head.L.length r.head.cap,.slice r.ad r.body.length r.bc] t)).cell? ((⟨W.heap.size,0,none⟩:Addr).add j)=some u:=by
 intro j u hu;rw [Addr.add_lit,Nat.zero_add,(cQA.new W _ t).cell];match j with
 | 0=>simpa [ruleV] using hu
 | 1=>simpa [ruleV] using hu
 | 2=>simpa [ruleV] using hu
 | 3=>simpa [ruleV] using hu
 | j+4=>simp [ruleV] at hu
end
section
open Go.RowKit Go.Shelf
attribute [local go_sem] Oper.semAt_some
theorem made21_no {w:World} (s:ByteArray) (hs:s.size≤9223372036854775807) {f:Flt} (hr:pQE s=.error f):Calls prog 21 #[.string s] w fun e w'=>e=.returned (.pointer none)∧aQA [] w w':=by
 have hld:=hide (load_text (w:=w) s hs (fun t m' h=>by rw [hr] at h;cases h));rw [hr] at hld;have hl2:Hid (Calls prog 16 #[.string s] w fun e w'=>(∃ F1 F2:Int,e=.returned (.tuple #[.pointer none,.agg #[.int .i64 F1,.int .i64 F2]]))∧aQA [] w w'):=hide (hld.out.mono (fun e w' h=>⟨⟨_,_,h.1⟩,h.2⟩));clear hr hld;go_enter func21,ntmps21
 go_wp2_with fail
 refine hl2.out.mono ?_;rintro e W1 ⟨⟨F1,F2,rfl⟩,k1⟩;have kF:=aQA.alloc [] W1 (.cells #[.int .i64 0,.int .i64 0] 28);have hF:=cQA.new W1 #[.int .i64 0,.int .i64 0] 28;have zF:=dQA W1 (.cells #[.int .i64 0,.int .i64 0] 28);have kG:=hide (k1.trans (aQA.alloc [] W1 (.cells #[.int .i64 F1,.int .i64 F2] 28)));clear kF hF zF k1;by_cases h0:F1=0
 ·subst h0;go_wp2_with fail
  go_ret
  exact ⟨rfl,kG.out⟩
 ·go_wp2_with fail
  go_ret
  exact ⟨rfl,kG.out⟩
theorem rowT_is {W:World} {g n:Nat} {l:List Nat} (h:RowT W g n l) (hl:l.length=n):lQB W g (dgs l):=by
 obtain ⟨cs,h1,h2⟩:=h;refine ⟨cs,⟨_,h1⟩,fun i x hx=>?_⟩;unfold dgs at hx;rw [List.getElem?_map] at hx;cases hq:l[i]? with
 | none=>rw [hq] at hx;cases hx
 | some y=>
  rw [hq] at hx;simp at hx;subst hx;have hi:=(List.getElem?_eq_some_iff.1 hq).1;have:=h2.2 i (by omega);rw [this];show some (Value.int .i64 ((l.getD i 0:Nat):Int))=_;rw [List.getD_eq_getElem?_getD,hq];rfl
structure WasQ where
 k:Nat
 t:List Nat
 b:Nat
 r:Nat
def wasV (q:WasQ):Value:=.slice (some ⟨q.b,0,none⟩) (relK q.k) (relK q.k)
structure WasE (b0 z:Nat) (rk:Nat→List Nat→Option Nat) (W:World) (q:WasQ):Prop where
 k4:q.k<4
 rk:rk q.k q.t=some q.r
 len:q.t.length=relK q.k
 inz:∀ x∈q.t,x<z
 low:b0≤q.b
 row:RowT W q.b (relK q.k) q.t
def Away (lo hi:Nat) (v:Value):Prop:=∀ j,v.ownBlock=some j→j<lo∨hi≤j
structure Bun (b0 z:Nat) (rk:Nat→List Nat→Option Nat) (WE:World) (lo hi n:Nat) (lv:Value) (xs:List (List Nat×Nat)) (W:World) (x y o:Value) (nx ny no:Nat) (cx cy co:List Value) (ws:List WasQ):Prop where
 xr:W.ownsRow b0 40 1 x nx cx
 yr:W.ownsRow b0 3 1 y ny cy
 orw:W.ownsRow b0 3 1 o no co
 each:∀ q∈ws,WasE b0 z rk W q
 sep:∀ q∈ws,y.ownBlock≠some q.b∧o.ownBlock≠some q.b
 yo:∀ j,y.ownBlock=some j→o.ownBlock≠some j
 ax:Away lo hi x
 ay:Away lo hi y
 ao:Away lo hi o
 lr:W.ownsRow lo 40 1 lv xs.length (xs.map fun u:List Nat×Nat=>.slice (some ⟨u.2,0,none⟩) n n)
 lb:∀ j,lv.ownBlock=some j→j<hi
 tr:∀ u∈xs,RowT W u.2 n u.1∧lo≤u.2∧u.2<hi
 top:hi≤W.heap.size
 kp:aQA [] WE W
 hb:WE.heap.size≤b0
section
variable {b0 z:Nat} {rk:Nat→List Nat→Option Nat} {WE:World} {lo hi n:Nat} {lv:Value} {xs:List (List Nat×Nat)} {W W':World} {x y o:Value} {nx ny no:Nat} {cx cy co:List Value} {ws:List WasQ}
theorem WasE.keeps {q:WasQ} {T:List Nat} (h:WasE b0 z rk W q) (k:aQA T W W') (hq:q.b∉T):WasE b0 z rk W' q:=⟨h.k4,h.rk,h.len,h.inz,h.low,h.row.keeps k hq⟩
theorem RowT.lt {g n:Nat} {l:List Nat} (h:RowT W g n l):g<W.heap.size:=by
 obtain ⟨cs,h1,_⟩:=h;exact (Array.getElem?_eq_some_iff.1 h1).1
theorem Bun.keeps0 (h:Bun b0 z rk WE lo hi n lv xs W x y o nx ny no cx cy co ws) (k:aQA [] W W'):Bun b0 z rk WE lo hi n lv xs W' x y o nx ny no cx cy co ws:=
 ⟨bQA h.xr k (by simp),bQA h.yr k (by simp),bQA h.orw k (by simp),fun q hq=>(h.each q hq).keeps k (by simp),h.sep,h.yo,h.ax,h.ay,h.ao,bQA h.lr k (by simp),h.lb,fun u hu=>⟨(h.tr u hu).1.keeps k (by simp),(h.tr u hu).2⟩,Nat.le_trans h.top k.size,h.kp.trans k,h.hb⟩
theorem tag_off {v v':Value} {e e':TypeId} {s s' b b' m m':Nat} {c c':List Value} (h:W.ownsRow b e s v m c) (h':W.ownsRow b' e' s' v' m' c') (he:e≠e'):∀ i,v'.ownBlock=some i→i∉ownL v:=fun i hi hm=>by
 obtain ⟨c1,e1⟩:=own_tagG h i (by simpa [ownL] using hm);obtain ⟨c2,e2⟩:=own_tagG h' i hi;rw [e1] at e2;injection e2 with e2;injection e2 with _ e2;exact he e2
theorem rowT_off {v:Value} {e:TypeId} {s b m g p:Nat} {c:List Value} {l:List Nat} (h:W.ownsRow b e s v m c) (h':RowT W g p l) (he:e≠3):g∉ownL v:=fun hm=>by
 obtain ⟨c1,e1⟩:=own_tagG h g (by simpa [ownL] using hm);obtain ⟨cs,e2,_⟩:=h';rw [show W.heap[g]?=_ from e2] at e1;injection e1 with e1;injection e1 with _ e1;exact he e1.symm
theorem Bun.growX (h:Bun b0 z rk WE lo hi n lv xs W x y o nx ny no cx cy co ws) (k:aQA (ownL x) W W') {x':Value} {nx':Nat} {cx':List Value} (hr:W'.ownsRow b0 40 1 x' nx' cx') (hat:x'.ownBlock=x.ownBlock∨x'.ownBlock=some W.heap.size):Bun b0 z rk WE lo hi n lv xs W' x' y o nx' ny no cx' cy co ws:=by
 refine ⟨hr,bQA h.yr k (tag_off h.xr h.yr (by decide)),bQA h.orw k (tag_off h.xr h.orw (by decide)),fun q hq=>(h.each q hq).keeps k (rowT_off h.xr (h.each q hq).row (by decide)),h.sep,h.yo,fun j hj=>?_,h.ay,h.ao,bQA h.lr k (fun i hi hm=>?_),h.lb,fun u hu=>⟨(h.tr u hu).1.keeps k (rowT_off h.xr (h.tr u hu).1 (by decide)),(h.tr u hu).2⟩,Nat.le_trans h.top k.size,h.kp.trans_new k (fun j hj=>.inr (Nat.le_trans h.hb (hQA h.xr j (by simpa [ownL] using hj)).1)),h.hb⟩
 ·rcases hat with e | e
  ·exact h.ax j (by rw [←e];exact hj)
  ·rw [e] at hj;cases hj;exact .inr h.top
 ·have h1:=(hQA h.lr i hi).1;have h2:=h.lb i hi;have:=h.ax i (by simpa [ownL] using hm);omega
theorem Bun.growY (h:Bun b0 z rk WE lo hi n lv xs W x y o nx ny no cx cy co ws) (k:aQA (ownL y) W W') {y':Value} {ny':Nat} {cy':List Value} (hr:W'.ownsRow b0 3 1 y' ny' cy') (hat:y'.ownBlock=y.ownBlock∨y'.ownBlock=some W.heap.size):Bun b0 z rk WE lo hi n lv xs W' x y' o nx ny' no cx cy' co ws:=by
 refine ⟨bQA h.xr k (tag_off h.yr h.xr (by decide)),hr,bQA h.orw k (fun i hi hm=>h.yo i (by simpa [ownL] using hm) hi),fun q hq=>(h.each q hq).keeps k (fun hm=>(h.sep q hq).1 (by simpa [ownL] using hm)),fun q hq=>⟨?_,(h.sep q hq).2⟩,fun j hj=>?_,h.ax,fun j hj=>?_,h.ao,bQA h.lr k (tag_off h.yr h.lr (by decide)),h.lb,fun u hu=>⟨(h.tr u hu).1.keeps k (fun hm=>?_),(h.tr u hu).2⟩,Nat.le_trans h.top k.size,h.kp.trans_new k (fun j hj=>.inr (Nat.le_trans h.hb (hQA h.yr j (by simpa [ownL] using hj)).1)),h.hb⟩
 ·rcases hat with e | e
  ·rw [e];exact (h.sep q hq).1
  ·rw [e];have:=(h.each q hq).row.lt;intro q2;injection q2 with q2;omega
 ·rcases hat with e | e
  ·exact h.yo j (by rw [←e];exact hj)
  ·rw [e] at hj;cases hj;intro q2;have:=(qQA h.orw _ q2).2;omega
 ·rcases hat with e | e
  ·exact h.ay j (by rw [←e];exact hj)
  ·rw [e] at hj;cases hj;exact .inr h.top
 ·have h1:=(h.tr u hu).2;have:=h.ay u.2 (by simpa [ownL] using hm);omega
theorem Bun.growO (h:Bun b0 z rk WE lo hi n lv xs W x y o nx ny no cx cy co ws) (k:aQA (ownL o) W W') {o':Value} {no':Nat} {co':List Value} (hr:W'.ownsRow b0 3 1 o' no' co') (hat:o'.ownBlock=o.ownBlock∨o'.ownBlock=some W.heap.size):Bun b0 z rk WE lo hi n lv xs W' x y o' nx ny no' cx cy co' ws:=by
 refine ⟨bQA h.xr k (tag_off h.orw h.xr (by decide)),bQA h.yr k (fun i hi hm=>h.yo i hi (by simpa [ownL] using hm)),hr,fun q hq=>(h.each q hq).keeps k (fun hm=>(h.sep q hq).2 (by simpa [ownL] using hm)),fun q hq=>⟨(h.sep q hq).1,?_⟩,fun j hj=>?_,h.ax,h.ay,fun j hj=>?_,bQA h.lr k (tag_off h.orw h.lr (by decide)),h.lb,fun u hu=>⟨(h.tr u hu).1.keeps k (fun hm=>?_),(h.tr u hu).2⟩,Nat.le_trans h.top k.size,h.kp.trans_new k (fun j hj=>.inr (Nat.le_trans h.hb (hQA h.orw j (by simpa [ownL] using hj)).1)),h.hb⟩
 ·rcases hat with e | e
  ·rw [e];exact (h.sep q hq).2
  ·rw [e];have:=(h.each q hq).row.lt;intro q2;injection q2 with q2;omega
 ·rcases hat with e | e
  ·rw [e];exact h.yo j hj
  ·rw [e];intro q2;injection q2 with q2;have:=(qQA h.yr _ hj).2;omega
 ·rcases hat with e | e
  ·exact h.ao j (by rw [←e];exact hj)
  ·rw [e] at hj;cases hj;exact .inr h.top
 ·have h1:=(h.tr u hu).2;have:=h.ao u.2 (by simpa [ownL] using hm);omega
theorem Bun.push (h:Bun b0 z rk WE lo hi n lv xs W x y o nx ny no cx cy co ws) {u:List Nat×Nat} (hu:u∈xs) {k r:Nat} (hk:k<4) (hn:n=relK k) (hr:rk k u.1=some r) (hl:u.1.length=n) (hz:∀ x∈u.1,x<z) (hlo:b0≤lo):Bun b0 z rk WE lo hi n lv xs W x y o nx ny no cx cy co (ws++[⟨k,u.1,u.2,r⟩]):=by
 have ht:=h.tr u hu;refine ⟨h.xr,h.yr,h.orw,fun q hq=>?_,fun q hq=>?_,h.yo,h.ax,h.ay,h.ao,h.lr,h.lb,h.tr,h.top,h.kp,h.hb⟩
 ·rcases List.mem_append.1 hq with hq | hq
  ·exact h.each q hq
  ·simp only [List.mem_singleton] at hq;subst hq;exact ⟨hk,hr,by rw [←hn];exact hl,hz,by have:=ht.2.1;dsimp only;omega,by rw [←hn];exact ht.1⟩
 ·rcases List.mem_append.1 hq with hq | hq
  ·exact h.sep q hq
  ·simp only [List.mem_singleton] at hq;subst hq;dsimp only;refine ⟨fun e=>?_,fun e=>?_⟩
   ·have:=h.ay _ e;omega
   ·have:=h.ao _ e;omega
def WasI (z:Nat) (rk:Nat→List Nat→Option Nat) (WE:World) (lo hi n:Nat) (lv:Value) (xs:List (List Nat×Nat)) (W:World) (x y o:Value) (ws:List WasQ):Prop:=Bun WE.heap.size z rk WE lo hi n lv xs W x y o ws.length ws.length ws.length (ws.map wasV) (ints (ws.map fun q=>(q.r:Int))) (ints (ws.map fun q=>(q.k:Int))) ws
theorem WasI.nil (z:Nat) (rk:Nat→List Nat→Option Nat) (WE:World):WasI z rk WE 0 0 0 (.slice none 0 0) [] WE (.slice none 0 0) (.slice none 0 0) (.slice none 0 0) []:=
 ⟨World.ownsRow_nil ..,World.ownsRow_nil ..,World.ownsRow_nil ..,by simp,by simp,by simp [Value.ownBlock],by simp [Away,Value.ownBlock],by simp [Away,Value.ownBlock],by simp [Away,Value.ownBlock],World.ownsRow_nil ..,by simp [Value.ownBlock],by simp,Nat.zero_le _,aQA.refl _ _,Nat.le_refl _⟩
theorem Bun.enter {lo' hi' n':Nat} {lv':Value} {xs':List (List Nat×Nat)} (h:Bun b0 z rk WE lo' hi' n' lv' xs' W x y o nx ny no cx cy co ws) (k:aQA [] W W') (hl:W'.ownsRow W.heap.size 40 1 lv xs.length (xs.map fun u:List Nat×Nat=>.slice (some ⟨u.2,0,none⟩) n n)) (ht:∀ u∈xs,W.heap.size≤u.2∧RowT W' u.2 n u.1):Bun b0 z rk WE W.heap.size W'.heap.size n lv xs W' x y o nx ny no cx cy co ws:=by
 have h0:=h.keeps0 k;exact ⟨h0.xr,h0.yr,h0.orw,h0.each,h0.sep,h0.yo,fun j hj=>.inl (qQA h.xr j hj).2,fun j hj=>.inl (qQA h.yr j hj).2,fun j hj=>.inl (qQA h.orw j hj).2,hl,fun j hj=>(qQA hl j hj).2,fun u hu=>⟨(ht u hu).2,(ht u hu).1,(ht u hu).2.lt⟩,Nat.le_refl _,h0.kp,h0.hb⟩
theorem Bun.leave (h:Bun b0 z rk WE lo hi n lv xs W x y o nx ny no cx cy co ws):Bun b0 z rk WE 0 0 0 (.slice none 0 0) [] W x y o nx ny no cx cy co ws:=
 ⟨h.xr,h.yr,h.orw,h.each,h.sep,h.yo,fun j _=>.inr (Nat.zero_le _),fun j _=>.inr (Nat.zero_le _),fun j _=>.inr (Nat.zero_le _),World.ownsRow_nil ..,by simp [Value.ownBlock],by simp,Nat.zero_le _,h.kp,h.hb⟩
theorem Bun.off (h:Bun b0 z rk WE lo hi n lv xs W x y o nx ny no cx cy co ws) {T:List Nat} (k:aQA T W W') (hT:∀ j∈T,j<b0):W'.ownsRow b0 40 1 x nx cx∧W'.ownsRow b0 3 1 y ny cy∧W'.ownsRow b0 3 1 o no co∧∀ q∈ws,WasE b0 z rk W' q:=
 ⟨bQA h.xr k (fun i hi hm=>by have:=(hQA h.xr i hi).1;have:=hT i hm;omega),bQA h.yr k (fun i hi hm=>by have:=(hQA h.yr i hi).1;have:=hT i hm;omega),bQA h.orw k (fun i hi hm=>by have:=(hQA h.orw i hi).1;have:=hT i hm;omega),fun q hq=>(h.each q hq).keeps k (fun hm=>by have:=(h.each q hq).low;have:=hT _ hm;omega)⟩
end
theorem tQF.rsok {w:World} {z bb:Nat} {B:SB} {S:ST} {gr cr:Nat} {rs:List RelX} {tv mv:Value} {ka:Option Addr} {ks:List CluX} {kc:Nat} {m:Mean} {vals:List Nat} {Fs:Nat→List Nat→Prop} {rk:Nat→List Nat→Option Nat} (h:tQF w z bb B S gr cr rs tv mv ka ks kc m vals Fs rk):RsOk m vals rs:=⟨h.len,fun i r hi=>by
  have hil:=(List.getElem?_eq_some_iff.1 hi).1;obtain ⟨nm,cols,hc⟩:∃ nm cols,m.rels[i]?=some (nm,cols):=⟨_,_,List.getElem?_eq_getElem (by rw [←h.len];exact hil)⟩;obtain ⟨a,b,_⟩:=h.rels i r nm cols hi hc
  exact ⟨by rw [a];simp [Mean.cols,hc],b⟩⟩
theorem grown {w w':World} {z z' eb bb:Nat} {B:SB} {S S':ST} {gr cr:Nat} {rs rs':List RelX} {tv mv:Value} {ka:Option Addr} {ks:List CluX} {kc:Nat} {m:Mean} {vals:List Nat} {rk rk':Nat→List Nat→Option Nat} (hM:Made w z eb m bb B S gr cr rs tv mv ka ks kc vals rk) (hf:oQD m) (hb:NoBang m.clauses) (hR:0<m.rels.length) {i:Nat} {l:List Nat} (hi:i<m.rels.length) (hE:tQF w' z' bb B S' gr cr rs' tv mv ka ks kc m vals (upF (lQD m.clauses) i (fun t=>lQD m.clauses i t∨t=l)) rk') (hl:cQE rs' (upF (lQD m.clauses) i (fun t=>lQD m.clauses i t∨t=l)) ks (vals.getD i 0) rk rs'.length rk'):(∀ j t r,rk j t=some r→∃ r',r'≤r∧rk' j t=some r')∧rk' i l=some 0:=by
 have hv:=nobang_vals hb hM.lay;rw [hv] at hl;have h2:=lays_pure hE.rsok hf hM.stable hE.ksc hl;rw [hE.len] at h2;have:=grow hb hv hR (fun j t h=>?_) (hM.lays hf) h2
 ·refine ⟨this.1,this.2 i l hi ?_⟩;unfold upF;rw [if_pos rfl];exact .inr rfl
 ·unfold upF;split
  ·rename_i e;subst e;exact .inl h
  ·exact h
end
section
open Go.ChangeShapes Go.WideShapes Go.ChangeAt Go.RowKit
theorem cellsG3:prog.cellsOf 3=1:=by kernel_rfl
theorem cellsG4:prog.cellsOf 4=1:=by kernel_rfl
theorem cellsG40:prog.cellsOf 40=1:=by kernel_rfl
theorem cellsG51:prog.cellsOf 51=2:=by kernel_rfl
theorem cellsG59:prog.cellsOf 59=3:=by kernel_rfl
theorem cellsG60:prog.cellsOf 60=1:=by kernel_rfl
theorem cellsG62:prog.cellsOf 62=4:=by kernel_rfl
theorem bytesG51:prog.bytesOf 51=32:=by kernel_rfl
theorem bytesG59:prog.bytesOf 59=40:=by kernel_rfl
theorem bytesG62:prog.bytesOf 62=64:=by kernel_rfl
theorem eQH {x:Int} (h:(Lit.int .i64 x).wf=true):-9223372036854775808≤x∧x≤9223372036854775807:=by
 simp [Lit.wf,IntKind.min,IntKind.max,IntKind.signed,IntKind.bits] at h;omega
section
variable {H:Type} {enc:TypeId×Value→H} {w:World}
def Small (t:TypeId) (d:DataW H):Prop:=∀ n∈d.weights prog t,n≤reachBytes
theorem weights_all {e:TypeId}:∀ {ds:List (DataW H)} {d:DataW H},d∈ds→∀ n∈d.weights prog e,n∈DataW.weightsAll prog e ds
 | x :: ds,d,hd,n,hn=>by
  simp only [DataW.weightsAll,List.mem_append];rcases List.mem_cons.1 hd with rfl | hd
  ·exact .inl hn
  ·exact .inr (weights_all hd n hn)
 | [],d,hd,_,_=>by cases hd
theorem choose_lt' {A:Type} [Inhabited A] {p:Nat→A→Prop} {len:Nat} (h:∀ i,i<len→∃ a,p i a):∃ L:Nat→A,∀ i,i<len→p i (L i):=
 ⟨fun i=>if hi:i<len then Classical.choose (h i hi) else default,fun i hi=>by
  simp only [dif_pos hi]
  exact Classical.choose_spec (h i hi)⟩
theorem terms_read {n:Nat} {v:Value} {x:DataW H×List MemPlace} (h:DataW.trod enc prog w 0 (fun _=>true) true n 40 [v]=some x):∃ av cap es,v=.slice av es.length cap∧cQL w av es:=by
 rcases open_ints underlying40 underlying3 cellsG3 h with ⟨hc,_⟩ | ⟨a,len,cap,zs,hc,_,hl,_,hz,_,hcell,hwf⟩
 ·simp only [List.cons.injEq,and_true] at hc;exact ⟨none,0,[],hc,fun i x hx=>by simp at hx⟩
 ·simp only [List.cons.injEq,and_true] at hc;simp only [if_true] at hz;refine ⟨some a,cap,zs.take len,by rw [List.length_take,Nat.min_eq_left (by omega)];exact hc,fun i x hx=>?_⟩;rw [List.getElem?_take] at hx;split at hx
  ·rename_i hi;have hm:=List.mem_of_getElem? hx;have:=eQH (hwf x hm);refine ⟨this.1,this.2,a,rfl,?_⟩;rw [hcell i (by omega),List.getD_eq_getElem?_getD,hx];rfl
  ·cases hx
theorem sl_read {t e:TypeId} {c:Nat} (ht:prog.underlying t=some (.slice e)) (hc:prog.cellsOf e=c) (hc0:0<c) {A:Type} [Inhabited A] (V:A→List Value) (hV:∀ a,(V a).length=c) (Ok:A→Prop) (hel:∀ n cs x,Small e x.1→DataW.trod enc prog w 0 (fun _=>true) true n e cs=some x→∃ a,Ok a∧cs=V a) {n:Nat} {v:Value} {x:DataW H×List MemPlace} (h:DataW.trod enc prog w 0 (fun _=>true) true n t [v]=some x) (hs:Small t x.1):∃ ad cap,∃ l:List A,v=.slice ad l.length cap∧(∀ a∈l,Ok a)∧l.length * prog.bytesOf e≤reachBytes∧∀ (i:Nat) (a:A),l[i]?=some a→∃ g o,ad=some ⟨g,o,none⟩∧∀ f u,(V a)[f]?=some u→w.cell? ⟨g,o+i * c+f,none⟩=some u:=by
 rcases Deep.open_slice ht h with ⟨hv,_⟩ | ⟨a,len,cap,m,n',D,Pl,hv,_,hl,hm,hmm,hx,hcs⟩
 ·simp only [List.cons.injEq,and_true] at hv;exact ⟨none,0,[],hv,by simp,by simp,by simp⟩
 ·simp only [List.cons.injEq,and_true] at hv;subst hx;have hlm:len≤m:=by simp only [if_true] at hmm;omega
  have hw0:(((List.range len).map D).length+((List.range (m - len)).map fun j=>D (len+j)).length) * prog.bytesOf e≤reachBytes:=hs _ (by simp [DataW.weights,ht])
  have hwi:∀ i,i<len→Small e (D i):=fun i hi k hk=>hs k (by
   simp only [DataW.weights,ht]
   exact List.mem_cons_of_mem _ (List.mem_append.2 (.inl (weights_all (List.mem_map.2 ⟨i,List.mem_range.2 hi,rfl⟩) k hk))))
  have hone:∀ i,i<len→∃ y:A,Ok y∧∀ f,f<c→w.cell? ((a.add (i * c)).add f)=(V y)[f]?:=fun i hi=>by
   obtain ⟨cs',h1,h2⟩:=hcs i (by omega);obtain ⟨y,hy,e1⟩:=hel n' cs' (D i,Pl i) (hwi i hi) h2;subst e1;rw [hc] at h1;exact ⟨y,hy,(World.cells?_some h1).2.2⟩
  obtain ⟨L,hL⟩:=choose_lt' hone;refine ⟨some a,cap,(List.range len).map L,by rw [List.length_map,List.length_range];exact hv,fun y hy=>?_,?_,fun i y hy=>?_⟩
  ·obtain ⟨i,hi,rfl⟩:=List.mem_map.1 hy;exact (hL i (List.mem_range.1 hi)).1
  ·refine Nat.le_trans (Nat.mul_le_mul_right _ ?_) hw0;simp
  ·rw [List.getElem?_map] at hy;have hi:i<len:=by
    rcases Nat.lt_or_ge i len with q | q
    ·exact q
    ·rw [List.getElem?_eq_none (by simpa using q)] at hy;cases hy
   rw [List.getElem?_range hi] at hy;simp at hy;subst hy;have h0:∃ u,(V (L i))[0]?=some u:=⟨_,List.getElem?_eq_getElem (by rw [hV];exact hc0)⟩;have hsp:a.spot=none:=by
    obtain ⟨u,hu⟩:∃ u,(V (L 0))[0]?=some u:=⟨_,List.getElem?_eq_getElem (by rw [hV];exact hc0)⟩;have h1:=(hL 0 (by omega)).2 0 hc0;rw [hu] at h1;simp only [Nat.zero_mul,Addr.add,if_true] at h1;unfold World.cell? at h1;split at h1
    ·split at h1
     ·cases h1
     ·rename_i q;simpa using q
    ·cases h1
   obtain ⟨g,o,sp⟩:=a;dsimp only at hsp;subst hsp;refine ⟨g,o,rfl,fun f u hu=>?_⟩;have hf:f<c:=by have:=(List.getElem?_eq_some_iff.1 hu).1;rw [hV] at this;exact this
   have h1:=(hL i hi).2 f hf;rw [hu,Addr.add_lit,Addr.add_lit] at h1;exact h1
instance:Inhabited RawL:=⟨⟨0,false,none,[],0⟩⟩
instance:Inhabited RawR:=⟨⟨default,none,[],0⟩⟩
instance:Inhabited RawF:=⟨⟨0,none,[],0⟩⟩
theorem lit_read {n:Nat} {cs:List Value} {x:DataW H×List MemPlace} (h:DataW.trod enc prog w 0 (fun _=>true) true n 59 cs=some x):∃ l:RawL,LitOk w l∧cs=litV l:=by
 obtain ⟨xs,k,hk,hxy,hlen,hxl,hf⟩:=DataW.trod_struct underlying59 h;rw [cellsG59] at hlen;match xs,hxl,cs,hlen with
 | [y0,y1,y2],_,[v0,v1,v2],_=>
  have g0:=hf 0 _ rfl;have g1:=hf 1 _ rfl;have g2:=hf 2 _ rfl;simp [cellsG3,cellsG4,cellsG40] at g0 g1 g2;obtain ⟨z0,e0,_,hw0⟩:=DataW.trod_int underlying3 g0;obtain ⟨b1,e1,_⟩:=DataW.trod_bool underlying4 g1;obtain ⟨av,cap,es,e2,hes⟩:=terms_read g2;simp only [List.cons.injEq,and_true] at e0 e1;subst e0 e1 e2;exact ⟨⟨z0,b1,av,es,cap⟩,⟨(eQH hw0).1,(eQH hw0).2,hes⟩,rfl⟩
theorem lits_read {n:Nat} {v:Value} {x:DataW H×List MemPlace} (h:DataW.trod enc prog w 0 (fun _=>true) true n 60 [v]=some x) (hs:Small 60 x.1):∃ ad cap,∃ ls:List RawL,v=.slice ad ls.length cap∧LitsIn w ad ls∧ls.length * 40≤140737488355328:=by
 obtain ⟨ad,cap,l,h1,h2,h3,h4⟩:=sl_read underlying60 cellsG59 (by decide) litV (fun _=>rfl) (LitOk w) (fun n cs x _ hx=>lit_read hx) h hs;refine ⟨ad,cap,l,h1,fun i a ha=>⟨h2 a (List.mem_of_getElem? ha),?_⟩,?_⟩
 ·obtain ⟨g,o,e,hc⟩:=h4 i a ha;exact ⟨g,o,e,hc 0 _ rfl,hc 1 _ rfl,hc 2 _ rfl⟩
 ·rw [bytesG59] at h3;exact Nat.le_trans h3 (by decide)
theorem rule_read {n:Nat} {cs:List Value} {x:DataW H×List MemPlace} (hs:Small 62 x.1) (h:DataW.trod enc prog w 0 (fun _=>true) true n 62 cs=some x):∃ r:RawR,(RuleOk w r∧r.body.length * 40≤140737488355328)∧cs=ruleV r:=by
 obtain ⟨xs,k,hk,hxy,hlen,hxl,hf⟩:=DataW.trod_struct underlying62 h;rw [cellsG62] at hlen;match xs,hxl,cs,hlen with
 | [y0,y1],_,[v0,v1,v2,v3],_=>
  have g0:=hf 0 _ rfl;have g1:=hf 1 _ rfl;simp [cellsG59,cellsG60] at g0 g1;obtain ⟨l,hl,e0⟩:=lit_read g0
  have hs1:Small 60 y1.1:=fun m hm=>hs m (by
   rw [hxy];simp only [DataW.weights,underlying62]
   simp [DataW.weightsEach,hm])
  obtain ⟨ad,cap,ls,e1,h1,h2⟩:=lits_read g1 hs1;unfold litV at e0;simp only [List.cons.injEq,and_true] at e0;obtain ⟨rfl,rfl,rfl⟩:=e0;subst e1;exact ⟨⟨l,ad,ls,cap⟩,⟨⟨hl,h1⟩,h2⟩,rfl⟩
theorem rules_read {n:Nat} {v:Value} {x:DataW H×List MemPlace} (h:DataW.trod enc prog w 0 (fun _=>true) true n 42 [v]=some x) (hs:Small 42 x.1):∃ ad cap,∃ rs:List RawR,v=.slice ad rs.length cap∧RulesIn w ad rs∧rs.length * 64≤140737488355328∧∀ r∈rs,r.body.length * 40≤140737488355328:=by
 obtain ⟨ad,cap,l,h1,h2,h3,h4⟩:=sl_read underlying42 cellsG62 (by decide) ruleV (fun _=>rfl) (fun r=>RuleOk w r∧r.body.length * 40≤140737488355328) (fun n cs x hx hy=>rule_read hx hy) h hs;refine ⟨ad,cap,l,h1,fun i a ha=>⟨(h2 a (List.mem_of_getElem? ha)).1,?_⟩,?_,fun r hr=>(h2 r hr).2⟩
 ·obtain ⟨g,o,e,hc⟩:=h4 i a ha;exact ⟨g,o,e,hc 0 _ rfl,hc 1 _ rfl,hc 2 _ rfl,hc 3 _ rfl⟩
 ·rw [bytesG62] at h3;exact Nat.le_trans h3 (by decide)
def factV (f:RawF):List Value:=[.int .i64 f.rel,.slice f.av f.L.length f.cap]
theorem fact_read {n:Nat} {cs:List Value} {x:DataW H×List MemPlace} (h:DataW.trod enc prog w 0 (fun _=>true) true n 51 cs=some x):∃ f:RawF,FactOk w f∧cs=factV f:=by
 obtain ⟨xs,k,hk,hxy,hlen,hxl,hf⟩:=DataW.trod_struct underlying51 h;rw [cellsG51] at hlen;match xs,hxl,cs,hlen with
 | [y0,y1],_,[v0,v1],_=>
  have g0:=hf 0 _ rfl;have g1:=hf 1 _ rfl;simp [cellsG3,cellsG40] at g0 g1;obtain ⟨z0,e0,_,hw0⟩:=DataW.trod_int underlying3 g0;obtain ⟨av,cap,es,e2,hes⟩:=terms_read g1;simp only [List.cons.injEq,and_true] at e0;subst e0 e2;exact ⟨⟨z0,av,es,cap⟩,⟨(eQH hw0).1,(eQH hw0).2,hes⟩,rfl⟩
theorem facts_read {n:Nat} {v:Value} {x:DataW H×List MemPlace} (h:DataW.trod enc prog w 0 (fun _=>true) true n 43 [v]=some x) (hs:Small 43 x.1):∃ ad cap,∃ fs:List RawF,v=.slice ad fs.length cap∧zQL w ad fs∧fs.length≤10000000000000:=by
 obtain ⟨ad,cap,l,h1,h2,h3,h4⟩:=sl_read underlying43 cellsG51 (by decide) factV (fun _=>rfl) (FactOk w) (fun n cs x _ hx=>fact_read hx) h hs;refine ⟨ad,cap,l,h1,fun i a ha=>⟨h2 a (List.mem_of_getElem? ha),?_⟩,?_⟩
 ·obtain ⟨g,o,e,hc⟩:=h4 i a ha;exact ⟨g,o,e,hc 0 _ rfl,hc 1 _ rfl⟩
 ·rw [bytesG51] at h3;have:reachBytes≤140737488355328:=by decide
  omega
end
end
end Go.Proofs.YtgjomknpjigkhaaGreatDoor
