import Derived.Test.YtgjomknpjigkhaaGreatDoorS31
namespace Go.Proofs.YtgjomknpjigkhaaGreatDoor
set_option maxRecDepth 100000
set_option maxHeartbeats 4000000
section
open Go.RowKit
theorem ClauseMs.at {w:World} {base:Nat} {X:List Nat} {cs:List ClauseM} {vs:List Value} (h:ClauseMs w base X cs vs) {i:Nat} {c:ClauseM} (hi:cs[i]?=some c):∃ hv lv ls,(∀ q,q<3→vs[i * 3+q]?=[Value.int .i64 (c.head.rel:Int),hv,lv][q]?)∧w.ownsRow base 220 2 hv c.head.terms.length (termCs c.head.terms)∧w.ownsRow base 279 3 lv c.lits.length ls∧LitMs w base X c.lits ls:=by
 induction cs generalizing vs i with
 | nil=>simp at hi
 | cons x cs ih=>
  obtain ⟨hv,lv,ls,rest,h1,h2,h3,h4,h5,h6,h7⟩:=h
  subst h1
  cases i with
  | zero=>
   simp at hi;subst hi
   exact ⟨hv,lv,ls,fun q hq=>by rw [Nat.zero_mul,Nat.zero_add,List.getElem?_append_left (by simpa using hq)],h2,h4,h6⟩
  | succ i=>
   obtain ⟨a,b,d,k1,k2⟩:=ih h7 (by simpa using hi)
   refine ⟨a,b,d,fun q hq=>?_,k2⟩
   rw [List.getElem?_append_right (by simp;omega)]
   have:(i+1) * 3+q - [Value.int .i64 (x.head.rel:Int),hv,lv].length=i * 3+q:=by simp;omega
   rw [this]
   exact k1 q hq
theorem LitMs.at {w:World} {base:Nat} {X:List Nat} {ls:List (AtomM×Bool)} {vs:List Value} (h:LitMs w base X ls vs) {i:Nat} {l:AtomM×Bool} (hi:ls[i]?=some l):∃ v,(∀ q,q<3→vs[i * 3+q]?=[Value.int .i64 (l.1.rel:Int),v,.bool l.2][q]?)∧w.ownsRow base 220 2 v l.1.terms.length (termCs l.1.terms):=by
 induction ls generalizing vs i with
 | nil=>simp at hi
 | cons x ls ih=>
  obtain ⟨v,rest,h1,h2,h3,h4⟩:=h
  subst h1
  cases i with
  | zero=>
   simp at hi;subst hi
   exact ⟨v,fun q hq=>by rw [Nat.zero_mul,Nat.zero_add,List.getElem?_append_left (by simpa using hq)],h2⟩
  | succ i=>
   obtain ⟨a,k1,k2⟩:=ih h4 (by simpa using hi)
   refine ⟨a,fun q hq=>?_,k2⟩
   rw [List.getElem?_append_right (by simp;omega)]
   have:(i+1) * 3+q - [Value.int .i64 (x.1.rel:Int),v,.bool x.2].length=i * 3+q:=by simp;omega
   rw [this]
   exact k1 q hq
theorem termCs_at {xs:List TermM} {i:Nat} {x:TermM} (h:xs[i]?=some x):(termCs xs)[i * 2]?=some (.bool x.isVar)∧(termCs xs)[i * 2+1]?=some (.int .i64 x.num):=by
 induction xs generalizing i with
 | nil=>simp at h
 | cons y xs ih=>
  have e:termCs (y :: xs)=[.bool y.isVar,.int .i64 y.num]++termCs xs:=by simp [termCs,termC]
  rw [e]
  cases i with
  | zero=>simp at h;subst h;simp
  | succ i=>
   have h2:=ih (i:=i) (by simpa using h)
   rw [List.getElem?_append_right (by simp;omega),List.getElem?_append_right (by simp;omega)]
   have e1:(i+1) * 2 - [Value.bool y.isVar,.int .i64 y.num].length=i * 2:=by simp;omega
   have e2:(i+1) * 2+1 - [Value.bool y.isVar,.int .i64 y.num].length=i * 2+1:=by simp;omega
   rw [e1,e2]
   exact h2
def maskStep (m:Nat) (x:TermM):Nat:=if x.isVar then m ||| 2 ^ x.num.toNat else m
def maskOf (m:Nat) (xs:List TermM):Nat:=xs.foldl maskStep m
def NumOk (xs:List TermM):Prop:=∀ x∈xs,x.isVar=true→∃ p:Nat,x.num=(p:Int)∧p<4
theorem maskStep_lt {m:Nat} (hm:m<16) {x:TermM} (hx:x.isVar=true→∃ p:Nat,x.num=(p:Int)∧p<4):maskStep m x<16:=by
 unfold maskStep
 split
 ·rename_i h
  obtain ⟨p,hp,hp4⟩:=hx h
  rw [hp]
  have:(2:Nat) ^ (p:Int).toNat<2 ^ 4:=Nat.pow_lt_pow_right (by omega) (by omega)
  exact Nat.or_lt_two_pow (n:=4) hm this
 ·exact hm
theorem maskOf_lt {m:Nat} (hm:m<16) {xs:List TermM} (hx:NumOk xs):maskOf m xs<16:=by
 induction xs generalizing m with
 | nil=>exact hm
 | cons x xs ih=>exact ih (maskStep_lt hm (hx x (by simp))) (fun y hy=>hx y (by simp [hy]))
theorem maskOf_or (m:Nat) (xs:List TermM):maskOf m xs=m ||| maskOf 0 xs:=by
 induction xs generalizing m with
 | nil=>simp [maskOf]
 | cons x xs ih=>
  show maskOf (maskStep m x) xs=m ||| maskOf (maskStep 0 x) xs
  rw [ih (maskStep m x),ih (maskStep 0 x),←Nat.or_assoc]
  congr 1
  unfold maskStep
  split <;> simp
theorem maskOf_bit {xs:List TermM} (hx:NumOk xs) (i:Nat):(maskOf 0 xs).testBit i=true↔(i:Int)∈varsM xs:=by
 induction xs with
 | nil=>simp [maskOf,varsM]
 | cons x xs ih=>
  have hx':NumOk xs:=fun y hy=>hx y (by simp [hy])
  have e:maskOf 0 (x :: xs)=maskOf (maskStep 0 x) xs:=rfl
  rw [e,maskOf_or,Nat.testBit_or,Bool.or_eq_true,ih hx']
  unfold maskStep
  cases hv:x.isVar with
  | false=>simp [varsM,hv]
  | true=>
   obtain ⟨p,hp,_⟩:=hx x (by simp) hv
   have:varsM (x :: xs)=x.num :: varsM xs:=by simp [varsM,hv]
   rw [this,hp]
   simp only [if_true,Int.toNat_natCast,Nat.zero_or,List.mem_cons,Int.natCast_inj]
   rw [Nat.testBit_two_pow]
   simp [eq_comm]
theorem shl_val {p:Nat} (hp:p<60):IntKind.i64.wrap (2 ^ p)=((2 ^ p:Nat):Int):=by
 have h3:(2:Nat) ^ p<4611686018427387904:=Nat.lt_of_lt_of_le (Nat.pow_lt_pow_right (by omega) hp) (by decide)
 have:=wrapN h3
 simpa using this
theorem vars_calls {w:World} {base:Nat} (r:Int) (xs:List TermM) {av:Option Addr} {cc:Nat} (hrow:w.ownsRow base 220 2 (.slice av xs.length cc) xs.length (termCs xs)) (hx:NumOk xs) (hl:xs.length≤1000000):Calls Tryz.prog 200 #[.agg #[.int .i64 r,.slice av xs.length cc]] w fun e w'=>e=.returned (.int .i64 ((maskOf 0 xs:Nat):Int))∧Keeps [] w w':=by
 have kA:=Keeps.alloc [] w (.cells #[.int .i64 r,.slice av xs.length cc] 151)
 have Hrow:=hide hrow
 have Hx:=hide hx
 generalize hR:maskOf 0 xs=R
 have HR:=hide hR
 clear hR hrow hx
 go_enter Tryz.func200,Tryz.ntmps200
 go_wp2_with fail
 go_loopw [3,9] (fun y x wr=>∃ (i M:Nat),y=.int .i64 (M:Int)∧x=.int .i64 i∧i≤xs.length∧M<16∧Keeps [] w wr∧maskOf M (xs.drop i)=R) (fun _ x _=>xs.length - (intOf x).toNat)
 case atStart=>exact ⟨0,0,rfl,rfl,by omega,by omega,kA,by rw [List.drop_zero];exact HR.out⟩
 case round=>
  obtain ⟨i,M,rfl,rfl,hil,hM,kr,hres⟩:=hrel
  clear kA HR
  by_cases hlt:i<xs.length
  ·obtain ⟨x,hx⟩:∃ x,xs[i]?=some x:=⟨_,List.getElem?_eq_getElem hlt⟩
   have hdi:xs.drop i=x :: xs.drop (i+1):=by
    rw [List.drop_eq_getElem_cons hlt]
    congr 1
    rw [List.getElem?_eq_getElem hlt] at hx
    exact Option.some.inj hx
   have hres':maskOf (maskStep M x) (xs.drop (i+1))=R:=by rw [←hres,hdi];rfl
   have hrr:=ownsRow_kept Hrow.out kr (by simp)
   obtain ⟨gt,hgt⟩:=ownE_pos2 hrr (by omega)
   subst hgt
   obtain ⟨t0,t1⟩:=termCs_at hx
   have c0:=ownE_cells hrr t0
   have c1:=ownE_cells hrr t1
   have hiI:(i:Int)<xs.length:=by omega
   have hgl:gt<wr.heap.size:=(ownE_lt hrr gt rfl).2
   have hxm:=Hx.out x (List.mem_of_getElem? hx)
   have hM2:=maskStep_lt hM hxm
   have kK:=Keeps.alloc [] wr (.cells #[.bool x.isVar,.int .i64 x.num] 220)
   clear hdi hres hx t0 t1 hrr
   cases hv:x.isVar with
   | false=>
    have e:maskStep M x=M:=by unfold maskStep;rw [hv];rfl
    rw [e] at hres'
    have Hres:=hide hres'
    rw [hv] at c0 kK
    clear hres' e hM2 hxm
    go_wp2_with fail
    go_roundw
    ·exact ⟨i+1,M,rfl,by simp,by omega,hM,kr.trans kK,Hres.out⟩
    ·simp only [intOf];omega
   | true=>
    obtain ⟨p,hp,hp4⟩:=hxm hv
    have e:maskStep M x=M ||| 2 ^ p:=by unfold maskStep;rw [hv,hp];rfl
    rw [e] at hres' hM2
    have Hres:=hide hres'
    rw [hp] at c1
    rw [hv] at c0
    rw [hp,hv] at kK
    have hsh:=shl_val (p:=p) (by omega)
    have h2p:(2:Nat) ^ p<16:=Nat.lt_of_lt_of_le (Nat.pow_lt_pow_right (by omega) hp4) (by decide)
    generalize hP2:(2:Nat) ^ p=P2 at *
    have hor:=or_val (a:=M) (b:=P2) (by omega) (by omega)
    clear hres' e hp hv
    go_wp2_with fail
    go_roundw
    ·exact ⟨i+1,M ||| P2,rfl,by simp,by omega,hM2,kr.trans kK,Hres.out⟩
    ·simp only [intOf];omega
  ·have hiI:¬ (i:Int)<xs.length:=by omega
   have hdz:xs.drop i=[]:=List.drop_eq_nil_of_le (by omega)
   rw [hdz] at hres
   have Hres:Hid (M=R):=hide hres
   clear hres hdz
   go_wp2_with fail
   go_ret
   exact ⟨by rw [←Hres.out];rfl,kr⟩
end
section
open Go.RowKit
def TermsFine (xs:List TermM):Prop:=NumOk xs∧xs.length≤1000000
def ClauseFine (c:ClauseM):Prop:=TermsFine c.head.terms∧∀ l∈c.lits,TermsFine l.1.terms
def litStep (p:Nat×Nat) (l:AtomM×Bool):Nat×Nat:=if l.2 then (p.1 ||| maskOf 0 l.1.terms,p.2) else (p.1,p.2 ||| maskOf 0 l.1.terms)
def masks (p:Nat×Nat) (ls:List (AtomM×Bool)):Nat×Nat:=ls.foldl litStep p
def askedL (ls:List (AtomM×Bool)):List Int:=(ls.filter (·.2)).flatMap fun l=>varsM l.1.terms
def boundL (ls:List (AtomM×Bool)):List Int:=(ls.filter (fun l=>!l.2)).flatMap fun l=>varsM l.1.terms
theorem litStep_lt {p:Nat×Nat} (h:p.1<16∧p.2<16) {l:AtomM×Bool} (hl:NumOk l.1.terms):(litStep p l).1<16∧(litStep p l).2<16:=by
 have hm:=maskOf_lt (m:=0) (by omega) hl
 unfold litStep
 split
 ·exact ⟨Nat.or_lt_two_pow (n:=4) h.1 hm,h.2⟩
 ·exact ⟨h.1,Nat.or_lt_two_pow (n:=4) h.2 hm⟩
theorem masks_lt {p:Nat×Nat} (h:p.1<16∧p.2<16) {ls:List (AtomM×Bool)} (hl:∀ l∈ls,NumOk l.1.terms):(masks p ls).1<16∧(masks p ls).2<16:=by
 induction ls generalizing p with
 | nil=>exact h
 | cons l ls ih=>exact ih (litStep_lt h (hl l (by simp))) (fun x hx=>hl x (by simp [hx]))
theorem masks_bit {p:Nat×Nat} {ls:List (AtomM×Bool)} (hl:∀ l∈ls,NumOk l.1.terms) (i:Nat):((masks p ls).1.testBit i=true↔p.1.testBit i=true∨(i:Int)∈askedL ls)∧((masks p ls).2.testBit i=true↔p.2.testBit i=true∨(i:Int)∈boundL ls):=by
 induction ls generalizing p with
 | nil=>simp [masks,askedL,boundL]
 | cons l ls ih=>
  have h1:=ih (p:=litStep p l) (fun x hx=>hl x (by simp [hx]))
  have hb:=maskOf_bit (hl l (by simp)) i
  have e:masks p (l :: ls)=masks (litStep p l) ls:=rfl
  rw [e]
  cases h2:l.2 with
  | true=>
   have e1:litStep p l=(p.1 ||| maskOf 0 l.1.terms,p.2):=by unfold litStep;rw [h2];rfl
   have e2:askedL (l :: ls)=varsM l.1.terms++askedL ls:=by simp [askedL,h2]
   have e3:boundL (l :: ls)=boundL ls:=by simp [boundL,h2]
   rw [e1] at h1
   rw [e1,e2,e3,List.mem_append,←hb,←or_assoc]
   simpa using h1
  | false=>
   have e1:litStep p l=(p.1,p.2 ||| maskOf 0 l.1.terms):=by unfold litStep;rw [h2];rfl
   have e2:askedL (l :: ls)=askedL ls:=by simp [askedL,h2]
   have e3:boundL (l :: ls)=varsM l.1.terms++boundL ls:=by simp [boundL,h2]
   rw [e1] at h1
   rw [e1,e2,e3,List.mem_append,←hb,←or_assoc]
   simpa using h1
theorem vars_nat {xs:List TermM} (h:NumOk xs) {n:Int} (hn:n∈varsM xs):∃ p:Nat,n=(p:Int):=by
 simp only [varsM,List.mem_map,List.mem_filter] at hn
 obtain ⟨x,⟨hx,hv⟩,rfl⟩:=hn
 obtain ⟨p,hp,_⟩:=h x hx hv
 exact ⟨p,hp⟩
theorem unsafe_mask {c:ClauseM} (h:ClauseFine c):unsafeM c = !decide (andN (masks (maskOf 0 c.head.terms,0) c.lits).1 (masks (maskOf 0 c.head.terms,0) c.lits).2=0):=by
 have hl:∀ l∈c.lits,NumOk l.1.terms:=fun l hl=>(h.2 l hl).1
 have hm:=maskOf_lt (m:=0) (by omega) h.1.1
 have hlt:=masks_lt (p:=(maskOf 0 c.head.terms,0)) ⟨hm,Nat.zero_lt_succ 15⟩ hl
 have hbit:∀ i,(andN (masks (maskOf 0 c.head.terms,0) c.lits).1 (masks (maskOf 0 c.head.terms,0) c.lits).2).testBit i=true↔(i:Int)∈askedM c∧(i:Int)∉boundM c:=fun i=>by
  obtain ⟨h1,h2⟩:=masks_bit (p:=(maskOf 0 c.head.terms,0)) hl i
  rw [andN_bit (by omega) (by omega),Bool.and_eq_true,h1,Bool.not_eq_true',←Bool.not_eq_true,h2,maskOf_bit h.1.1]
  have e1:askedM c=varsM c.head.terms++askedL c.lits:=rfl
  have e2:boundM c=boundL c.lits:=rfl
  rw [e1,e2,List.mem_append]
  simp
 rw [Bool.eq_iff_iff]
 unfold unsafeM
 rw [List.any_eq_true]
 simp only [Bool.not_eq_true',decide_eq_false_iff_not]
 constructor
 ·rintro ⟨n,hn,hb⟩ h0
  have hnat:∃ p:Nat,n=(p:Int):=by
   have e1:askedM c=varsM c.head.terms++askedL c.lits:=rfl
   rw [e1,List.mem_append] at hn
   rcases hn with hn | hn
   ·exact vars_nat h.1.1 hn
   ·simp only [askedL,List.mem_flatMap,List.mem_filter] at hn
    obtain ⟨l,⟨hl1,_⟩,hn⟩:=hn
    exact vars_nat (hl l hl1) hn
  obtain ⟨p,rfl⟩:=hnat
  have:=(hbit p).2 ⟨hn,hb⟩
  rw [h0,Nat.zero_testBit] at this
  cases this
 ·intro h0
  obtain ⟨i,hi⟩:=Nat.exists_testBit_of_ne_zero h0
  obtain ⟨h1,h2⟩:=(hbit i).1 hi
  exact ⟨(i:Int),h1,h2⟩
theorem mean_clause {w:World} {mb B:Nat} {m:Mean} (h:MeanAt w mb B m):∃ a cc la lc,B<w.heap.size∧(∀ c∈m.clauses,∃ g g2,a=some ⟨g,0,none⟩∧g<w.heap.size∧la=some ⟨g2,0,none⟩∧g2<w.heap.size)∧∀ {W:World},Keeps [] w W→W.cell? ⟨B,6,none⟩=some (.slice a m.clauses.length cc)∧W.cell? ⟨B,7,none⟩=some (.slice la m.clauses.length lc)∧(∀ (i g2:Nat) (c:ClauseM),m.clauses[i]?=some c→la=some ⟨g2,0,none⟩→W.cell? ⟨g2,i,none⟩=some (.int .i64 (c.line:Int)))∧∀ (i g:Nat) (c:ClauseM),m.clauses[i]?=some c→a=some ⟨g,0,none⟩→∃ ha hc va vc ls,W.cell? ⟨g,i * 3,none⟩=some (.int .i64 (c.head.rel:Int))∧W.cell? ⟨g,i * 3+1,none⟩=some (.slice ha c.head.terms.length hc)∧W.cell? ⟨g,i * 3+2,none⟩=some (.slice va c.lits.length vc)∧w.ownsRow mb 220 2 (.slice ha c.head.terms.length hc) c.head.terms.length (termCs c.head.terms)∧w.ownsRow mb 279 3 (.slice va c.lits.length vc) c.lits.length ls∧LitMs w mb [] c.lits ls:=by
 obtain ⟨tD,mD,sz,tN,mN,co,cl,ln,cvs,kvs,hV⟩:=h
 obtain ⟨ak,ck,hk⟩:=ownE_len hV.cls
 subst hk
 obtain ⟨al,cl2,hk⟩:=ownE_len hV.lines
 subst hk
 refine ⟨ak,ck,al,cl2,hV.cells.lt,fun c hc=>?_,fun k=>⟨by rw [(hV.cells.keeps k (by simp)).cell];rfl,by rw [(hV.cells.keeps k (by simp)).cell];rfl,fun i g2 c hi hg=>?_,fun i g c hi hg=>?_⟩⟩
 ·have hpos:0<m.clauses.length:=List.length_pos_of_mem hc
  obtain ⟨g,hg⟩:=ownE_pos2 hV.cls hpos
  obtain ⟨g2,hg2⟩:=ownE_pos2 hV.lines hpos
  subst hg
  subst hg2
  exact ⟨g,g2,rfl,(ownE_lt hV.cls g rfl).2,rfl,(ownE_lt hV.lines g2 rfl).2⟩
 ·subst hg
  refine ownE_cell (ownsRow_kept hV.lines k (by simp)) ?_
  simp [natsV,hi]
 ·subst hg
  obtain ⟨hv,lv,ls,h1,h2,h3,h4⟩:=hV.clsA.at hi
  obtain ⟨ha,hc,e⟩:=ownE_len h2
  subst e
  obtain ⟨va,vc,e⟩:=ownE_len h3
  subst e
  have hcr:=ownsRow_kept hV.cls k (by simp)
  have e0:=h1 0 (by omega)
  rw [Nat.add_zero] at e0
  exact ⟨ha,hc,va,vc,ls,ownE_cells hcr (by rw [e0];rfl),ownE_cells hcr (by rw [h1 1 (by omega)];rfl),ownE_cells hcr (by rw [h1 2 (by omega)];rfl),h2,h3,h4.far (by simp)⟩
end
section
open Go.RowKit
abbrev Grow:=List Nat→Nat→AtomM×Bool→Nat
structure GrowOk (cs:List ClauseM) (G:Grow) (U n:Nat) (Inv:List Nat→Prop):Prop where
 len:∀ {vals},Inv vals→vals.length=n
 le:∀ {vals},Inv vals→∀ v∈vals,v≤U
 grow:∀ {vals} {c:ClauseM} {l:AtomM×Bool},Inv vals→c∈cs→l∈c.lits→vals.getD c.head.rel 0≤G vals (vals.getD c.head.rel 0) l
 keep:∀ {vals} {c:ClauseM} {l:AtomM×Bool},Inv vals→c∈cs→l∈c.lits→Inv (vals.set c.head.rel (G vals (vals.getD c.head.rel 0) l))
 rels:∀ c∈cs,RelsOk n c
theorem sum_set (vals:List Nat) {h:Nat} (hh:h<vals.length) (x:Nat):(vals.set h x).sum+vals.getD h 0=vals.sum+x:=by
 induction vals generalizing h with
 | nil=>simp at hh
 | cons v vals ih=>
  cases h with
  | zero=>simp;omega
  | succ h=>
   have:=ih (h:=h) (by simpa using hh)
   simp at this ⊢
   omega
theorem sum_le {vals:List Nat} {U:Nat} (h:∀ v∈vals,v≤U):vals.sum≤vals.length * U:=by
 induction vals with
 | nil=>simp
 | cons v vals ih=>
  have h1:=h v (by simp)
  have h2:=ih (fun x hx=>h x (by simp [hx]))
  rw [List.sum_cons,List.length_cons,Nat.add_mul]
  omega
def PassSt (G:Grow) (vals0 vals:List Nat) (c:Bool) (done:Nat→AtomM×Bool→Prop):Prop:=(c=true∧vals0.sum<vals.sum)∨(c=false∧vals=vals0∧∀ h l,done h l→G vals (vals.getD h 0) l=vals.getD h 0)
theorem PassSt.mono {G:Grow} {vals0 vals:List Nat} {c:Bool} {done done':Nat→AtomM×Bool→Prop} (h:PassSt G vals0 vals c done) (hd:∀ h l,done' h l→done h l):PassSt G vals0 vals c done':=by
 rcases h with h | ⟨h1,h2,h3⟩
 ·exact .inl h
 ·exact .inr ⟨h1,h2,fun a l q=>h3 a l (hd a l q)⟩
theorem PassSt.step {cs:List ClauseM} {G:Grow} {U n:Nat} {Inv:List Nat→Prop} (H:GrowOk cs G U n Inv) {vals0 vals:List Nat} {b:Bool} {done done':Nat→AtomM×Bool→Prop} (h:PassSt G vals0 vals b done) (hI:Inv vals) {c:ClauseM} (hc:c∈cs) {l:AtomM×Bool} (hl:l∈c.lits) (hd:∀ h x,done' h x→done h x∨(h=c.head.rel∧x=l)):PassSt G vals0 (vals.set c.head.rel (G vals (vals.getD c.head.rel 0) l)) (b || (((G vals (vals.getD c.head.rel 0) l:Nat):Int) != ((vals.getD c.head.rel 0:Nat):Int))) done':=by
 have hr:c.head.rel<vals.length:=by rw [H.len hI];exact (H.rels c hc).1
 have hs:=sum_set vals hr (G vals (vals.getD c.head.rel 0) l)
 have hg:=H.grow hI hc hl
 by_cases he:G vals (vals.getD c.head.rel 0) l=vals.getD c.head.rel 0
 ·have hsame:vals.set c.head.rel (G vals (vals.getD c.head.rel 0) l)=vals:=by
   rw [he]
   apply List.ext_getElem?
   intro i
   rw [List.getElem?_set]
   split
   ·rename_i e
    subst e
    rw [List.getD_eq_getElem?_getD,List.getElem?_eq_getElem hr]
    rfl
   ·rfl
  rw [hsame]
  have e0:(((G vals (vals.getD c.head.rel 0) l:Nat):Int) != ((vals.getD c.head.rel 0:Nat):Int))=false:=by rw [bne_eq_false_iff_eq,he]
  rw [e0,Bool.or_false]
  rcases h with h | ⟨h1,h2,h3⟩
  ·exact .inl h
  ·refine .inr ⟨h1,h2,fun a x hx=>?_⟩
   rcases hd a x hx with q | ⟨rfl,rfl⟩
   ·exact h3 a x q
   ·exact he
 ·have e0:(((G vals (vals.getD c.head.rel 0) l:Nat):Int) != ((vals.getD c.head.rel 0:Nat):Int))=true:=by rw [bne_iff_ne];omega
  rw [e0,Bool.or_true]
  left
  refine ⟨rfl,?_⟩
  rcases h with ⟨_,h⟩ | ⟨_,h2,_⟩
  ·omega
  ·rw [←h2];omega
def natC (vals:List Nat):Array Value:=(vals.map fun n:Nat=>Value.int .i64 (n:Int)).toArray
theorem natC_at {vals:List Nat} {i:Nat} (h:i<vals.length):(natC vals)[i]?=some (.int .i64 ((vals.getD i 0:Nat):Int)):=by
 simp [natC,List.getD_eq_getElem?_getD,h]
theorem natC_set (vals:List Nat) (i x:Nat):(natC vals).setIfInBounds i (.int .i64 (x:Int))=natC (vals.set i x):=by
 simp [natC,List.map_set]
def natOf:Value→Nat | .int _ v=>v.toNat | _=>0
def sumAt (w:World) (g:Nat):Nat:=match w.heap[g]? with | some (.cells cs _ _)=>(cs.toList.map natOf).sum | _=>0
theorem sumAt_of {w:World} {g:Nat} {vals:List Nat} (h:CellsAt w g (natC vals)):sumAt w g=vals.sum:=by
 obtain ⟨t,ht⟩:=h
 unfold sumAt
 rw [ht]
 simp only [natC]
 congr 1
 rw [List.map_map]
 conv=>rhs;rw [←List.map_id vals]
 apply List.map_congr_left
 intro x _
 simp [natOf]
def StableG (G:Grow) (cs:List ClauseM) (vals:List Nat):Prop:=∀ c∈cs,∀ l∈c.lits,G vals (vals.getD c.head.rel 0) l=vals.getD c.head.rel 0
def hangG:Grow:=fun vals v l=>v ||| vals.getD l.1.rel 0
def HangI (E:Edges) (n:Nat) (vals:List Nat):Prop:=vals.length=n∧∀ i,i<n→vals.getD i 0<2 ^ n∧(vals.getD i 0).testBit i=true∧∀ j,(vals.getD i 0).testBit j=true→HangsOn E i j
theorem getD_set (vals:List Nat) {h:Nat} (hh:h<vals.length) (x i:Nat):(vals.set h x).getD i 0=if i=h then x else vals.getD i 0:=by
 rw [List.getD_eq_getElem?_getD,List.getElem?_set,List.getD_eq_getElem?_getD]
 by_cases e:h=i
 ·subst e;simp [hh]
 ·rw [if_neg e,if_neg (fun q=>e q.symm)]
theorem hang_ok {cs:List ClauseM} {n:Nat} (hr:∀ c∈cs,RelsOk n c):GrowOk cs hangG (2 ^ n) n (HangI (edgesM cs) n) where
 len h:=h.1
 le {vals} h v hv:=by
  obtain ⟨i,hi⟩:=List.getElem?_of_mem hv
  have hil:i<vals.length:=by
   rcases Nat.lt_or_ge i vals.length with q | q
   ·exact q
   ·rw [List.getElem?_eq_none q] at hi;cases hi
  have:=(h.2 i (by rw [←h.1];exact hil)).1
  rw [List.getD_eq_getElem?_getD,hi] at this
  exact Nat.le_of_lt this
 grow h hc hl:=Nat.left_le_or
 keep {vals c l} h hc hl:=by
  have hh:c.head.rel<vals.length:=by rw [h.1];exact (hr c hc).1
  have hlr:l.1.rel<n:=(hr c hc).2 l hl
  refine ⟨by rw [List.length_set];exact h.1,fun i hi=>?_⟩
  rw [getD_set vals hh]
  split
  ·rename_i e
   subst e
   have h1:=h.2 c.head.rel hi
   have h2:=h.2 l.1.rel hlr
   refine ⟨Nat.or_lt_two_pow h1.1 h2.1,?_,fun j hj=>?_⟩
   ·show (vals.getD c.head.rel 0 ||| vals.getD l.1.rel 0).testBit _=true
    rw [Nat.testBit_or,h1.2.1];rfl
   ·have hj':(vals.getD c.head.rel 0 ||| vals.getD l.1.rel 0).testBit j=true:=hj
    rw [Nat.testBit_or,Bool.or_eq_true] at hj'
    rcases hj' with q | q
    ·exact h1.2.2 j q
    ·have he:(c.head.rel,l.1.rel)∈edgesM cs:=by
      simp only [edgesM,edgesC,List.mem_flatMap,List.mem_map]
      exact ⟨c,hc,l,hl,rfl⟩
     exact HangsOn.step he (h2.2.2 j q)
  ·exact h.2 i hi
 rels:=hr
theorem hang_done {cs:List ClauseM} {n:Nat} (hr:∀ c∈cs,RelsOk n c) {vals:List Nat} (h:HangI (edgesM cs) n vals) (hs:StableG hangG cs vals) {a b:Nat} (ha:a<n):(vals.getD a 0).testBit b=hangB n (edgesM cs) a b:=by
 refine sets_reach (S:=fun i j=>(vals.getD i 0).testBit j) (edges_below hr) (fun i j hi hj=>(h.2 i hi).2.2 j hj) (fun i hi=>(h.2 i hi).2.1) (fun e he j hj=>?_) ha
 simp only [edgesM,edgesC,List.mem_flatMap,List.mem_map] at he
 obtain ⟨c,hc,l,hl,rfl⟩:=he
 have:=hs c hc l hl
 show (vals.getD c.head.rel 0).testBit j=true
 rw [←this]
 show (vals.getD c.head.rel 0 ||| vals.getD l.1.rel 0).testBit j=true
 rw [Nat.testBit_or,Bool.or_eq_true]
 exact .inr hj
def layG:Grow:=fun vals v l=>max v (vals.getD l.1.rel 0+(if l.2 then 1 else 0))
def LayI (cs:List ClauseM) (n:Nat) (vals:List Nat):Prop:=vals.length=n∧(∀ i,i<n→vals.getD i 0+1≤reachCnt n (edgesM cs) i)∧∀ vs:List Nat,StableG layG cs vs→∀ i,vals.getD i 0≤vs.getD i 0
theorem lay_ok {cs:List ClauseM} {n:Nat} (hr:∀ c∈cs,RelsOk n c) (hc:∀ c∈cs,circleC n (edgesM cs) c=false):GrowOk cs layG n n (LayI cs n) where
 len h:=h.1
 le {vals} h v hv:=by
  obtain ⟨i,hi⟩:=List.getElem?_of_mem hv
  have hil:i<vals.length:=by
   rcases Nat.lt_or_ge i vals.length with q | q
   ·exact q
   ·rw [List.getElem?_eq_none q] at hi;cases hi
  have:=h.2.1 i (by rw [←h.1];exact hil)
  rw [List.getD_eq_getElem?_getD,hi] at this
  have h2:=cnt_le n (hangB n (edgesM cs) i)
  have h3:v+1≤reachCnt n (edgesM cs) i:=this
  unfold reachCnt at h3
  omega
 grow h hc hl:=Nat.le_max_left _ _
 keep {vals c l} h hcc hl:=by
  have hh:c.head.rel<vals.length:=by rw [h.1];exact (hr c hcc).1
  have hlr:l.1.rel<n:=(hr c hcc).2 l hl
  have he:(c.head.rel,l.1.rel)∈edgesM cs:=by
   simp only [edgesM,edgesC,List.mem_flatMap,List.mem_map]
   exact ⟨c,hcc,l,hl,rfl⟩
  refine ⟨by rw [List.length_set];exact h.1,fun i hi=>?_,fun vs hvs i=>?_⟩
  rotate_left
  ·rw [getD_set vals hh]
   split
   ·rename_i e
    subst e
    have q1:=h.2.2 vs hvs c.head.rel
    have q2:=h.2.2 vs hvs l.1.rel
    have q3:max (vs.getD c.head.rel 0) (vs.getD l.1.rel 0+(if l.2 then 1 else 0))=vs.getD c.head.rel 0:=hvs c hcc l hl
    show max (vals.getD c.head.rel 0) (vals.getD l.1.rel 0+(if l.2 then 1 else 0))≤_
    omega
   ·exact h.2.2 vs hvs i
  rw [getD_set vals hh]
  split
  ·rename_i e
   subst e
   have h1:=h.2.1 c.head.rel hi
   have h2:=h.2.1 l.1.rel hlr
   show max (vals.getD c.head.rel 0) (vals.getD l.1.rel 0+(if l.2 then 1 else 0))+1≤_
   have h3:=reachCnt_edge (edges_below hr) he
   cases h4:l.2 with
   | false=>simp only [Bool.false_eq_true,if_false];omega
   | true=>
    have hn:hangB n (edgesM cs) l.1.rel c.head.rel=false:=by
     have:=hc c hcc
     unfold circleC at this
     rw [List.any_eq_false] at this
     have:=this l hl
     rw [h4] at this
     simpa using this
    have h5:=reachCnt_not (edges_below hr) he hn
    simp only [if_true]
    omega
  ·exact h.2.1 i hi
 rels:=hr
theorem lay_first {cs:List ClauseM} {n:Nat} (hr:∀ c∈cs,RelsOk n c):LayI cs n (List.replicate n 0):=by
 refine ⟨by simp,fun i hi=>?_,fun vs _ i=>?_⟩
 rotate_left
 ·rw [List.getD_eq_getElem?_getD,List.getElem?_replicate]
  split <;> simp
 have:=reachCnt_pos (edges_below hr) hi
 rw [List.getD_eq_getElem?_getD,List.getElem?_replicate,if_pos hi]
 simpa using this
end
section
open Go.RowKit
def FirstTo (c:Nat) (R:Option Nat) (e:Ending):Prop:=match R with
 | some l=>e=gaveUp c l
 | none=>e=.returned (.tuple #[])
set_option maxHeartbeats 8000000 in
theorem unsafe_calls {w:World} {mb B:Nat} {m:Mean} (hm:MeanAt w mb B m) (hf:∀ c∈m.clauses,ClauseFine c∧c.lits.length≤4) (hl:m.clauses.length≤52):Calls Tryz.prog 136 #[.pointer (some ⟨B,0,none⟩)] w fun e w'=>FirstTo 12 (firstC unsafeM m.clauses) e∧Keeps [] w w':=by
 obtain ⟨a,cc,la,lc,hBl,hpos,hcl⟩:=mean_clause hm
 have b6:=(hcl (Keeps.refl [] w)).1
 have Hcl:=hide (fun (W:World) (k:Keeps [] w W)=>hcl k)
 have Hpos:=hide hpos
 have Hf:=hide hf
 have hgu:=hide (fun (w:World) (l:Int)=>giveUp_calls (w:=w) 12 l)
 generalize hR:firstC unsafeM m.clauses=R
 have HR:=hide hR
 clear hR hcl hpos hf hm
 go_enter Tryz.func136,Tryz.ntmps136
 go_wp2_with fail
 go_loopw [13] (fun x wr=>∃ i:Nat,x=.int .i64 i∧i≤m.clauses.length∧Keeps [] w wr∧firstC unsafeM (m.clauses.drop i)=R) (fun x _=>m.clauses.length - (intOf x).toNat)
 case atStart=>exact ⟨0,rfl,by omega,Keeps.refl [] w,by rw [List.drop_zero];exact HR.out⟩
 case round=>
  obtain ⟨i,rfl,hil,kr,hres⟩:=hrel
  clear b6 HR
  by_cases hlt:i<m.clauses.length
  ·obtain ⟨c,hc⟩:∃ c,m.clauses[i]?=some c:=⟨_,List.getElem?_eq_getElem hlt⟩
   have hdi:m.clauses.drop i=c :: m.clauses.drop (i+1):=by
    rw [List.drop_eq_getElem_cons hlt]
    congr 1
    rw [List.getElem?_eq_getElem hlt] at hc
    exact Option.some.inj hc
   rw [hdi,firstC] at hres
   have hcm:=List.mem_of_getElem? hc
   obtain ⟨hfine,hl4⟩:=Hf.out c hcm
   obtain ⟨g,g2,hg,hgl,hg2,hg2l⟩:=Hpos.out c hcm
   subst hg
   subst hg2
   obtain ⟨_,b7,hlines,hcells⟩:=Hcl.out wr kr
   obtain ⟨ha,hc',va,vc,ls,c0,c1,c2,hrow,hlrow,hlits⟩:=hcells i g c hc rfl
   have hiI:(i:Int)<m.clauses.length:=by omega
   have hsz:=kr.size
   have kK:=Keeps.alloc [] wr (.cells #[.int .i64 (c.head.rel:Int),.slice ha c.head.terms.length hc',.slice va c.lits.length vc] 154)
   have hK:=CellsAt.new wr #[.int .i64 (c.head.rel:Int),.slice ha c.head.terms.length hc',.slice va c.lits.length vc] 154
   have hvc:=hide (vars_calls (c.head.rel:Int) c.head.terms (ownsRow_kept hrow (kr.trans kK) (by simp)) hfine.1.1 hfine.1.2)
   have HK:=hide hK
   have Hc:=hide hc
   rw [unsafe_mask hfine] at hres
   have hm16:=maskOf_lt (m:=0) (by omega) hfine.1.1
   have Hfine:=hide hfine
   have Hlr:=hide hlrow
   have Hlits:=hide hlits
   clear hdi hrow hlines hcells hK hc hfine b7 hlrow hlits
   go_wp2_with fail
   refine hvc.out.mono ?_
   rintro e w1 ⟨rfl,k1⟩
   have kw1:=(kr.trans kK).trans k1
   have hK1:=HK.out.keeps k1 (by simp)
   have e2:=hK1.cell 2
   have HK1:=hide hK1
   generalize hP:masks (maskOf 0 c.head.terms,0) c.lits=PP at hres
   have HP:=hide hP
   generalize maskOf 0 c.head.terms=M0 at *
   clear hP hvc HK hK1 kK kr c0 c1 c2
   go_wp2_with fail
   go_loopw [4,5,24] (fun y z x ws=>∃ (j A D:Nat),y=.int .i64 (A:Int)∧z=.int .i64 (D:Int)∧x=.int .i64 j∧j≤c.lits.length∧A<16∧D<16∧Keeps [] w1 ws∧masks (A,D) (c.lits.drop j)=PP) (fun _ _ x _=>c.lits.length - (intOf x).toNat)
   case atStart=>exact ⟨0,M0,0,rfl,rfl,rfl,by omega,hm16,by omega,Keeps.refl [] w1,by rw [List.drop_zero];exact HP.out⟩
   case round=>
    obtain ⟨j,A,D,rfl,rfl,rfl,hjl,hA,hD,ks,hmk⟩:=hrel
    clear HP e2
    by_cases hjlt:j<c.lits.length
    ·obtain ⟨l,hl⟩:∃ l,c.lits[j]?=some l:=⟨_,List.getElem?_eq_getElem hjlt⟩
     have hdj:c.lits.drop j=l :: c.lits.drop (j+1):=by
      rw [List.drop_eq_getElem_cons hjlt]
      congr 1
      rw [List.getElem?_eq_getElem hjlt] at hl
      exact Option.some.inj hl
     have hmk':masks (litStep (A,D) l) (c.lits.drop (j+1))=PP:=by rw [←hmk,hdj];rfl
     obtain ⟨v,hv1,hv2⟩:=Hlits.out.at hl
     obtain ⟨v1,v2,hvv⟩:=ownE_len hv2
     subst hvv
     have hcr:=ownsRow_kept Hlr.out (kw1.trans ks) (by simp)
     obtain ⟨gt,hgt⟩:=ownE_pos2 hcr (by omega)
     subst hgt
     have d0:wr.cell? ⟨gt,j * 3,none⟩=some (.int .i64 (l.1.rel:Int)):=ownE_cells hcr (by have:=hv1 0 (by omega);rw [Nat.add_zero] at this;rw [this];rfl)
     have d1:wr.cell? ⟨gt,j * 3+1,none⟩=some (.slice v1 l.1.terms.length v2):=ownE_cells hcr (by rw [hv1 1 (by omega)];rfl)
     have d2:wr.cell? ⟨gt,j * 3+2,none⟩=some (.bool l.2):=ownE_cells hcr (by rw [hv1 2 (by omega)];rfl)
     have hgl:gt<wr.heap.size:=(ownE_lt hcr gt rfl).2
     have hjI:(j:Int)<c.lits.length:=by omega
     have kL:=Keeps.alloc [] wr (.cells #[.int .i64 (l.1.rel:Int),.slice v1 l.1.terms.length v2,.bool l.2] 279)
     obtain ⟨hno,hlen⟩:=Hfine.out.2 l (List.mem_of_getElem? hl)
     have hvc:=hide (vars_calls (l.1.rel:Int) l.1.terms (ownsRow_kept hv2 ((kw1.trans ks).trans kL) (by simp)) hno hlen)
     have hm2:=maskOf_lt (m:=0) (by omega) hno
     have hor1:=or_val (a:=A) (b:=maskOf 0 l.1.terms) (by omega) (by omega)
     have hor2:=or_val (a:=D) (b:=maskOf 0 l.1.terms) (by omega) (by omega)
     have hlt1:A ||| maskOf 0 l.1.terms<16:=Nat.or_lt_two_pow (n:=4) hA hm2
     have hlt2:D ||| maskOf 0 l.1.terms<16:=Nat.or_lt_two_pow (n:=4) hD hm2
     unfold litStep at hmk'
     generalize maskOf 0 l.1.terms=M at *
     clear hdj hmk hl hv1 hv2 hcr hno hlen
     cases hl2:l.2 with
     | true=>
      rw [hl2] at hmk' d2 kL hvc
      have Hmk:=hide hmk'
      clear hmk' hor2 hlt2 hl2
      go_wp2_with fail
      refine hvc.out.mono ?_
      rintro e w2 ⟨rfl,k2⟩
      go_wp2_with fail
      go_roundw
      ·exact ⟨j+1,A ||| M,D,rfl,rfl,by simp,by omega,hlt1,hD,(ks.trans kL).trans k2,Hmk.out⟩
      ·simp only [intOf];omega
     | false=>
      rw [hl2] at hmk' d2 kL hvc
      have Hmk:=hide hmk'
      clear hmk' hor1 hlt1 hl2
      go_wp2_with fail
      refine hvc.out.mono ?_
      rintro e w2 ⟨rfl,k2⟩
      go_wp2_with fail
      go_roundw
      ·exact ⟨j+1,A,D ||| M,rfl,rfl,by simp,by omega,hA,hlt2,(ks.trans kL).trans k2,Hmk.out⟩
      ·simp only [intOf];omega
    ·have hjI:¬ (j:Int)<c.lits.length:=by omega
     have hdz:c.lits.drop j=[]:=List.drop_eq_nil_of_le (by omega)
     rw [hdz] at hmk
     have hPP:PP=(A,D):=hmk.symm
     subst hPP
     have han:=andNot_val (a:=A) (b:=D) (by omega) (by omega)
     have kall:=kw1.trans ks
     by_cases h0:andN A D=0
     ·rw [h0] at han hres
      have hres':firstC unsafeM (m.clauses.drop (i+1))=R:=hres
      have Hres:=hide hres'
      clear hres hres' h0 hmk hdz
      go_wp2_with fail
      go_roundw
      ·exact ⟨i+1,by simp,by omega,kall,Hres.out⟩
      ·simp only [intOf];omega
     ·have hne:(((andN A D:Nat):Int) != 0)=true:=by rw [bne_iff_ne];omega
      rw [decide_eq_false h0] at hres
      have hres':some c.line=R:=hres
      have Hres:=hide hres'
      obtain ⟨_,b7,hlines,_⟩:=Hcl.out wr kall
      have hl7:=hlines i g2 c Hc.out rfl
      clear hres hres' h0 hmk hdz hlines
      go_wp2_with fail
      refine (hgu.out _ _).mono ?_
      rintro e w3 ⟨rfl,rfl⟩
      exact ⟨rfl,by rw [←Hres.out];rfl,kall⟩
  ·have hiI:¬ (i:Int)<m.clauses.length:=by omega
   have hdz:m.clauses.drop i=[]:=List.drop_eq_nil_of_le (by omega)
   rw [hdz,firstC] at hres
   have Hres:=hide hres
   clear hres hdz
   go_wp2_with fail
   go_end0
   exact ⟨by rw [←Hres.out];rfl,kr⟩
end
end Go.Proofs.YtgjomknpjigkhaaGreatDoor
