import Derived.Test.YtgjomknpjigkhaaGreatDoorS14
namespace Go.Proofs.YtgjomknpjigkhaaGreatDoor
set_option maxRecDepth 100000
set_option maxHeartbeats 4000000
section
abbrev Edges:=List (Nat×Nat)
inductive HangsOn (E:Edges):Nat→Nat→Prop
 | here (a:Nat):HangsOn E a a
 | step {a b c:Nat} (h:(a,b)∈E) (k:HangsOn E b c):HangsOn E a c
theorem HangsOn.trans {E:Edges} {a b c:Nat} (h:HangsOn E a b) (k:HangsOn E b c):HangsOn E a c:=by
 induction h with
 | here=>exact k
 | step h _ ih=>exact .step h (ih k)
def stepR (T:Nat→Bool) (e:Nat×Nat):Nat→Bool:=fun j=>T j || (T e.1 && decide (j=e.2))
def roundR (E:Edges) (T:Nat→Bool):Nat→Bool:=E.foldl stepR T
def roundsR (E:Edges):Nat→(Nat→Bool)→(Nat→Bool)
 | 0,T=>T
 | k+1,T=>roundsR E k (roundR E T)
def hangB (n:Nat) (E:Edges) (a b:Nat):Bool:=roundsR E n (fun j=>decide (j=a)) b
theorem roundR_mono (E:Edges) (T:Nat→Bool) {j:Nat} (h:T j=true):roundR E T j=true:=by
 unfold roundR
 induction E generalizing T with
 | nil=>exact h
 | cons e E ih=>exact ih _ (by simp [stepR,h])
theorem roundsR_mono (E:Edges) (k:Nat) (T:Nat→Bool) {j:Nat} (h:T j=true):roundsR E k T j=true:=by
 induction k generalizing T with
 | zero=>exact h
 | succ k ih=>exact ih _ (roundR_mono E T h)
theorem roundR_edge (E:Edges) (T:Nat→Bool) {e:Nat×Nat} (he:e∈E) (h:T e.1=true):roundR E T e.2=true:=by
 unfold roundR
 induction E generalizing T with
 | nil=>cases he
 | cons x E ih=>
  rcases List.mem_cons.1 he with rfl | he
  ·exact roundR_mono E _ (by simp [stepR,h])
  ·exact ih (stepR T x) he (by simp [stepR,h])
def ClosedR (E:Edges) (T:Nat→Bool):Prop:=∀ e∈E,T e.1=true→T e.2=true
theorem roundR_closed {E:Edges} {T:Nat→Bool} (h:ClosedR E T):roundR E T=T:=by
 unfold roundR
 induction E with
 | nil=>rfl
 | cons x E ih=>
  have hx:stepR T x=T:=by
   funext j
   simp only [stepR]
   cases hj:T j with
   | true=>rfl
   | false=>
    cases h1:T x.1 with
    | false=>rfl
    | true=>
     have h2:=h x (by simp) h1
     have:j≠x.2:=by intro e;rw [e,h2] at hj;cases hj
     simp [this]
  rw [List.foldl_cons,hx]
  exact ih fun e he=>h e (by simp [he])
def cnt (n:Nat) (T:Nat→Bool):Nat:=((List.range n).filter T).length
theorem cnt_le (n:Nat) (T:Nat→Bool):cnt n T≤n:=by
 have:=List.length_filter_le T (List.range n)
 unfold cnt
 simpa using this
theorem filter_len_mono {A:Type} {l:List A} {p q:A→Bool} (h:∀ a∈l,p a=true→q a=true):(l.filter p).length≤(l.filter q).length:=by
 induction l with
 | nil=>simp
 | cons a l ih=>
  have IH:=ih fun b hb=>h b (by simp [hb])
  cases hp:p a with
  | true=>rw [List.filter_cons_of_pos hp,List.filter_cons_of_pos (h a (by simp) hp)];simp;exact IH
  | false=>
   rw [List.filter_cons_of_neg (by simp [hp])]
   cases hq:q a with
   | true=>rw [List.filter_cons_of_pos hq];simp;omega
   | false=>rw [List.filter_cons_of_neg (by simp [hq])];exact IH
theorem filter_len_less {A:Type} {l:List A} {p q:A→Bool} (h:∀ a∈l,p a=true→q a=true) {x:A} (hx:x∈l) (h1:p x=false) (h2:q x=true):(l.filter p).length<(l.filter q).length:=by
 induction l with
 | nil=>cases hx
 | cons a l ih=>
  have M:=filter_len_mono (l:=l) fun b hb=>h b (by simp [hb])
  rcases List.mem_cons.1 hx with rfl | hx
  ·rw [List.filter_cons_of_neg (by simp [h1]),List.filter_cons_of_pos h2];simp;omega
  ·have IH:=ih (fun b hb=>h b (by simp [hb])) hx
   cases hp:p a with
   | true=>rw [List.filter_cons_of_pos hp,List.filter_cons_of_pos (h a (by simp) hp)];simp;exact IH
   | false=>
    rw [List.filter_cons_of_neg (by simp [hp])]
    cases hq:q a with
    | true=>rw [List.filter_cons_of_pos hq];simp;omega
    | false=>rw [List.filter_cons_of_neg (by simp [hq])];exact IH
theorem cnt_mono {n:Nat} {T U:Nat→Bool} (h:∀ j,j<n→T j=true→U j=true):cnt n T≤cnt n U:=filter_len_mono fun a ha=>h a (by simpa using ha)
theorem cnt_less {n:Nat} {T U:Nat→Bool} (h:∀ j,j<n→T j=true→U j=true) {x:Nat} (hx:x<n) (h1:T x=false) (h2:U x=true):cnt n T<cnt n U:=
 filter_len_less (fun a ha=>h a (by simpa using ha)) (by simpa using hx) h1 h2
def Below (n:Nat) (E:Edges):Prop:=∀ e∈E,e.1<n∧e.2<n
theorem roundsR_closed_of {E:Edges} {T:Nat→Bool} (h:ClosedR E T) (k:Nat):roundsR E k T=T:=by
 induction k with
 | zero=>rfl
 | succ k ih=>rw [roundsR,roundR_closed h];exact ih
theorem rounds_close {n:Nat} {E:Edges} (hE:Below n E) (k:Nat) (T:Nat→Bool) (hk:n<cnt n T+k):ClosedR E (roundsR E k T):=by
 induction k generalizing T with
 | zero=>have:=cnt_le n T;omega
 | succ k ih=>
  by_cases hc:ClosedR E T
  ·rw [roundsR_closed_of hc];exact hc
  ·obtain ⟨e,he,h1,h2⟩:∃ e,e∈E∧T e.1=true∧T e.2=false:=by
    refine Classical.byContradiction fun hn=>hc fun e he h1=>?_
    refine Classical.byContradiction fun h2=>hn ⟨e,he,h1,by simpa using h2⟩
   have:=cnt_less (n:=n) (T:=T) (U:=roundR E T) (fun j _ hj=>roundR_mono E T hj) (hE e he).2 h2 (roundR_edge E T he h1)
   exact ih _ (by omega)
theorem stepR_sound {E:Edges} {a:Nat} {T:Nat→Bool} (h:∀ j,T j=true→HangsOn E a j) {e:Nat×Nat} (he:e∈E):∀ j,stepR T e j=true→HangsOn E a j:=by
 intro j hj
 simp only [stepR,Bool.or_eq_true,Bool.and_eq_true,decide_eq_true_eq] at hj
 rcases hj with hj | ⟨h1,rfl⟩
 ·exact h j hj
 ·exact (h _ h1).trans (.step he (.here _))
theorem roundR_sound {E F:Edges} {a:Nat} {T:Nat→Bool} (hF:∀ e∈F,e∈E) (h:∀ j,T j=true→HangsOn E a j):∀ j,roundR F T j=true→HangsOn E a j:=by
 unfold roundR
 induction F generalizing T with
 | nil=>exact h
 | cons e F ih=>exact ih (fun x hx=>hF x (by simp [hx])) (stepR_sound h (hF e (by simp)))
theorem roundsR_sound {E:Edges} {a:Nat} {T:Nat→Bool} (h:∀ j,T j=true→HangsOn E a j) (k:Nat):∀ j,roundsR E k T j=true→HangsOn E a j:=by
 induction k generalizing T with
 | zero=>exact h
 | succ k ih=>exact ih (roundR_sound (fun _ h=>h) h)
theorem closed_reach {E:Edges} {T:Nat→Bool} (h:ClosedR E T) {a b:Nat} (ha:T a=true) (r:HangsOn E a b):T b=true:=by
 induction r with
 | here=>exact ha
 | step he _ ih=>exact ih (h _ he ha)
theorem hangB_iff {n:Nat} {E:Edges} (hE:Below n E) {a b:Nat} (ha:a<n):hangB n E a b=true↔HangsOn E a b:=by
 constructor
 ·exact roundsR_sound (a:=a) (fun j hj=>by simp at hj;subst hj;exact .here _) n b
 ·intro r
  have h1:0<cnt n (fun j=>decide (j=a)):=by
   have:=cnt_less (n:=n) (T:=fun _=>false) (U:=fun j=>decide (j=a)) (fun j _ h=>by cases h) ha rfl (by simp)
   omega
  have hc:=rounds_close hE n (fun j=>decide (j=a)) (by omega)
  exact closed_reach hc (roundsR_mono E n _ (by simp)) r
theorem sets_reach {n:Nat} {E:Edges} (hE:Below n E) {S:Nat→Nat→Bool} (hs:∀ i j,i<n→S i j=true→HangsOn E i j) (hi:∀ i,i<n→S i i=true)
  (hc:∀ e∈E,∀ j,S e.2 j=true→S e.1 j=true) {a b:Nat} (ha:a<n):S a b=hangB n E a b:=by
 rw [Bool.eq_iff_iff,hangB_iff hE ha]
 refine ⟨hs a b ha,fun r=>?_⟩
 induction r with
 | here=>exact hi _ ha
 | step he _ ih=>exact hc _ he _ (ih (hE _ he).2)
def reachCnt (n:Nat) (E:Edges) (a:Nat):Nat:=cnt n (hangB n E a)
theorem reachCnt_edge {n:Nat} {E:Edges} (hE:Below n E) {a b:Nat} (he:(a,b)∈E):reachCnt n E b≤reachCnt n E a:=by
 refine cnt_mono fun j _ hj=>?_
 rw [hangB_iff hE (hE _ he).2] at hj
 rw [hangB_iff hE (hE _ he).1]
 exact .step he hj
theorem reachCnt_not {n:Nat} {E:Edges} (hE:Below n E) {a b:Nat} (he:(a,b)∈E) (hn:hangB n E b a=false):reachCnt n E b+1≤reachCnt n E a:=by
 refine cnt_less (fun j _ hj=>?_) (hE _ he).1 hn ?_
 ·rw [hangB_iff hE (hE _ he).2] at hj
  rw [hangB_iff hE (hE _ he).1]
  exact .step he hj
 ·rw [hangB_iff hE (hE _ he).1]
  exact .here _
theorem reachCnt_pos {n:Nat} {E:Edges} (hE:Below n E) {a:Nat} (ha:a<n):1≤reachCnt n E a:=by
 have:=cnt_less (n:=n) (T:=fun _=>false) (U:=hangB n E a) (fun j _ h=>by cases h) ha rfl ((hangB_iff hE ha).2 (.here _))
 unfold reachCnt
 omega
def edgesC (c:ClauseM):Edges:=c.lits.map fun l=>(c.head.rel,l.1.rel)
def edgesM (cs:List ClauseM):Edges:=cs.flatMap edgesC
def circleC (n:Nat) (E:Edges) (c:ClauseM):Bool:=c.lits.any fun l=>l.2 && hangB n E l.1.rel c.head.rel
def firstC (p:ClauseM→Bool):List ClauseM→Option Nat
 | []=>none
 | c :: cs=>if p c then some c.line else firstC p cs
def laterS (m:Mean):Except Flt Mean:=
 match firstC unsafeM m.clauses with
 | some l=>.error (12,l)
 | none=>match firstC (circleC m.rels.length (edgesM m.clauses)) m.clauses with
  | some l=>.error (13,l)
  | none=>.ok m
def RelsOk (n:Nat) (c:ClauseM):Prop:=c.head.rel<n∧∀ l∈c.lits,l.1.rel<n
theorem edges_below {n:Nat} {cs:List ClauseM} (h:∀ c∈cs,RelsOk n c):Below n (edgesM cs):=by
 intro e he
 simp only [edgesM,edgesC,List.mem_flatMap,List.mem_map] at he
 obtain ⟨c,hc,l,hl,rfl⟩:=he
 exact ⟨(h c hc).1,(h c hc).2 l hl⟩
theorem placeIn_lt {A:Type} {l:List (ByteArray×A)} {s:ByteArray} {p:Nat} (h:placeIn l s=some p):p<l.length:=by
 obtain ⟨a,ha⟩:=placeIn_some h
 rcases Nat.lt_or_ge p l.length with h | h
 ·exact h
 ·rw [List.getElem?_eq_none h] at ha;cases ha
theorem atomS_rel {m:Mean} {sc sc':Scope} {a:AtomI} {x:AtomM} (h:atomS m sc a=.ok (x,sc')):x.rel<m.rels.length:=by
 unfold atomS at h
 split at h
 ·cases h
 ·rename_i r hr
  split at h
  ·cases h
  ·split at h
   ·cases h
   ·cases h
    exact placeIn_lt hr
theorem litsS_rel {m:Mean} {sc sc':Scope} {k:Nat} {ls:List LitI} {xs:List (AtomM×Bool)} (h:litsS m sc k ls=.ok (xs,sc')):∀ l∈xs,l.1.rel<m.rels.length:=by
 induction ls generalizing sc sc' k xs with
 | nil=>simp only [litsS] at h;cases h;intro l hl;cases hl
 | cons l ls ih=>
  simp only [litsS] at h
  split at h
  ·cases h
  ·split at h
   ·cases h
   ·rename_i x sc1 h1
    split at h
    ·cases h
    ·rename_i xs' sc2 h2
     cases h
     intro l hl
     rcases List.mem_cons.1 hl with rfl | hl
     ·exact atomS_rel h1
     ·exact ih h2 l hl
structure MeanOk (m:Mean):Prop where
 doms:m.doms.length≤4
 rels:m.rels.length≤6
 clauses:m.clauses.length≤52
 onceD:Once m.doms
 onceR:Once m.rels
 cols:∀ r∈m.rels,r.2.length≤3∧∀ d∈r.2,d<m.doms.length
 inR:∀ c∈m.clauses,RelsOk m.rels.length c
 lits:∀ c∈m.clauses,c.lits.length≤4
 sizes:∀ d∈m.doms,1≤d.2∧d.2≤8
theorem MeanOk.empty:MeanOk ⟨[],[],[]⟩:=⟨by simp,by simp,by simp,by intro i j a b h;simp at h,by intro i j a b h;simp at h,by simp,by simp,by simp,by simp⟩
theorem colsS_ok {m:Mean} {k:Nat} {cs:List Tn} {ds:List Nat} (hk:k≤3) (h:colsS m k cs=.ok ds):ds.length+k≤3∧ds.length=cs.length∧∀ d∈ds,d<m.doms.length:=by
 induction cs generalizing k ds with
 | nil=>simp only [colsS] at h;cases h;simp;omega
 | cons c cs ih=>
  simp only [colsS] at h
  split at h
  ·cases h
  ·split at h
   ·cases h
   ·rename_i d hd
    split at h
    ·cases h
    ·rename_i ds' h2
     cases h
     obtain ⟨h3,h4,h5⟩:=ih (by omega) h2
     refine ⟨by simp;omega,by simp;omega,fun d hd'=>?_⟩
     rcases List.mem_cons.1 hd' with rfl | hd'
     ·exact placeIn_lt hd
     ·exact h5 d hd'
theorem litsS_len {m:Mean} {sc sc':Scope} {k:Nat} {ls:List LitI} {xs:List (AtomM×Bool)} (hk:k≤4) (h:litsS m sc k ls=.ok (xs,sc')):xs.length+k≤4:=by
 induction ls generalizing sc sc' k xs with
 | nil=>simp only [litsS] at h;cases h;simp;omega
 | cons l ls ih=>
  simp only [litsS] at h
  split at h
  ·cases h
  ·split at h
   ·cases h
   ·split at h
    ·cases h
    ·rename_i h2
     cases h
     have:=ih (by omega) h2
     simp;omega
theorem addItem_ok {m m':Mean} {i:ItemI} (hm:MeanOk m) (h:addItem m i=.ok m'):MeanOk m':=by
 cases i with
 | dom n z=>
  simp only [addItem,addDom] at h
  split at h
  ·cases h
  ·rename_i h4
   split at h
   ·cases h
   ·rename_i ht
    split at h
    ·cases h
    ·rename_i hz
     cases h
     have hno:placeIn m.doms (txt n.g)=none:=by
      simp [Mean.taken,Mean.dom] at ht
      exact ht.1
     exact ⟨by have:=hm.doms;simp;omega,hm.rels,hm.clauses,hm.onceD.push hno _,hm.onceR,fun r hr=>⟨(hm.cols r hr).1,fun d hd=>by have:=(hm.cols r hr).2 d hd;simp;omega⟩,hm.inR,hm.lits,fun d hd=>by
      rcases List.mem_append.1 hd with hd | hd
      ·exact hm.sizes d hd
      ·simp at hd;subst hd;simp;omega⟩
 | rel n z=>
  simp only [addItem,addRel] at h
  split at h
  ·cases h
  ·rename_i h6
   split at h
   ·cases h
   ·rename_i ht
    split at h
    ·cases h
    ·rename_i ds hds
     cases h
     have hno:placeIn m.rels (txt n.g)=none:=by
      simp [Mean.taken,Mean.rel] at ht
      exact ht.2
     obtain ⟨c1,c2,c3⟩:=colsS_ok (by omega) hds
     exact ⟨hm.doms,by have:=hm.rels;simp;omega,hm.clauses,hm.onceD,hm.onceR.push hno _,fun r hr=>by
      rcases List.mem_append.1 hr with hr | hr
      ·exact hm.cols r hr
      ·simp at hr;subst hr;exact ⟨by omega,c3⟩,fun c hc=>⟨by have:=(hm.inR c hc).1;simp;omega,fun l hl=>by have:=(hm.inR c hc).2 l hl;simp;omega⟩,hm.lits,hm.sizes⟩
 | clause a ls=>
  simp only [addItem,addClause] at h
  split at h
  ·cases h
  ·rename_i h52
   split at h
   ·cases h
   ·rename_i x sc h1
    split at h
    ·cases h
    ·rename_i xs sc2 h2
     cases h
     exact ⟨hm.doms,hm.rels,by have:=hm.clauses;simp;omega,hm.onceD,hm.onceR,hm.cols,fun c hc=>by
      rcases List.mem_append.1 hc with hc | hc
      ·exact hm.inR c hc
      ·simp at hc;subst hc;exact ⟨atomS_rel (m:=m) h1,litsS_rel (m:=m) h2⟩,fun c hc=>by
      rcases List.mem_append.1 hc with hc | hc
      ·exact hm.lits c hc
      ·simp at hc;subst hc;have:=litsS_len (by omega) h2;simp;omega,hm.sizes⟩
theorem senseS_ok {m m':Mean} {is:List ItemI} (hm:MeanOk m) (h:senseS m is=.ok m'):MeanOk m':=by
 induction is generalizing m with
 | nil=>simp only [senseS] at h;cases h;exact hm
 | cons i is ih=>
  simp only [senseS] at h
  split at h
  ·cases h
  ·rename_i m1 h1
   exact ih (addItem_ok hm h1) h
end
section
def decG (n:Int):ByteArray:=if 10≤n then ⟨#[(48+n / 10).toNat.toUInt8,(48+n % 10).toNat.toUInt8]⟩ else ⟨#[(48+n % 10).toNat.toUInt8]⟩
def blank:ByteArray:=⟨#[32]⟩
def eol:ByteArray:=⟨#[10]⟩
def prt:Sg→ByteArray
 | .dom=>txt .dom++blank
 | .rel=>txt .rel++blank
 | .comma=>txt .comma++blank
 | .arrow=>blank++(txt .arrow++blank)
 | .semi=>txt .semi++eol
 | .dot=>txt .dot++eol
 | .int s=>decG (valTo s s.size)
 | g=>txt g
def prog1 (last:Bool) (t:Tn):ByteArray:=if isIntG t.g && last then blank++prt t.g else prt t.g
def progOut (last:Bool):List Tn→ByteArray
 | []=>ByteArray.empty
 | t :: ts=>prog1 last t++progOut (isNameG t.g) ts
theorem name_noInt {g:Sg} (h:isNameG g=true):isIntG g=false:=by cases g <;> first | rfl | cases h
theorem takeG_is {p:Sg→Bool} {ts us:List Tn} {t:Tn} (h:takeG p ts=.ok (t,us)):p t.g=true:=by
 cases ts with
 | nil=>cases h
 | cons x ts=>
  simp only [takeG] at h
  split at h
  ·cases h
   assumption
  ·cases h
end
section
def LineIn (ts:List Tn) (l:Nat):Prop:=∃ t∈ts,t.line=l
theorem LineIn.of {ts us:List Tn} {l:Nat} (h:LineIn us l) (g:GoesG ts us):LineIn ts l:=by
 obtain ⟨t,ht,e⟩:=h
 exact ⟨t,g.suf.subset ht,e⟩
theorem take_line {p:Sg→Bool} {ts:List Tn} {l:Nat} (e:Ended ts) (h:takeG p ts=.error l):LineIn ts l:=by
 obtain ⟨t,us,rfl⟩:=e.cons
 simp only [takeG] at h
 split at h
 ·cases h
 ·cases h;exact ⟨t,by simp,rfl⟩
theorem rest_line {p:Sg→Bool} (hp:NoFin p) {k:Nat} {ts:List Tn} {l:Nat} (hk:ts.length≤k) (e:Ended ts) (h:restG p k ts=.error l):LineIn ts l:=by
 induction k generalizing ts with
 | zero=>
  obtain ⟨t,us,rfl⟩:=e.cons
  simp at hk
 | succ k ih=>
  simp only [restG] at h
  split at h
  ·rename_i hc
   have g1:=sees_goes comma_noFin e hc
   split at h
   ·rename_i hl
    cases h
    exact (take_line g1.2 hl).of g1
   ·rename_i t us' ht
    have g2:=(takeG_goes hp g1.2 ht).1
    split at h
    ·rename_i hl
     cases h
     exact (ih (by have:=g1.1;have:=g2.1;omega) g2.2 hl).of (g1.trans g2)
    ·cases h
  ·split at h
   ·rename_i hl
    cases h
    exact take_line e hl
   ·cases h
theorem rest_are {p:Sg→Bool} (hp:NoFin p) {k:Nat} {ts us r:List Tn} (hk:ts.length≤k) (e:Ended ts) (h:restG p k ts=.ok (r,us)):∀ t∈r,p t.g=true∧t∈ts:=by
 induction k generalizing ts us r with
 | zero=>
  obtain ⟨t,us,rfl⟩:=e.cons
  simp at hk
 | succ k ih=>
  simp only [restG] at h
  split at h
  ·rename_i hc
   have g1:=sees_goes comma_noFin e hc
   split at h
   ·cases h
   ·rename_i t us' ht
    obtain ⟨g2,e2,p2⟩:=takeG_goes hp g1.2 ht
    split at h
    ·cases h
    ·rename_i r' vs hr
     cases h
     intro x hx
     rcases List.mem_cons.1 hx with rfl | hx
     ·exact ⟨p2,g1.suf.subset (by rw [e2];simp)⟩
     ·obtain ⟨a,b⟩:=ih (by have:=g1.1;have:=g2.1;omega) g2.2 hr x hx
      exact ⟨a,(g1.trans g2).suf.subset b⟩
  ·split at h
   ·cases h
   ·cases h
    intro x hx
    cases hx
theorem list_are {p:Sg→Bool} (hp:NoFin p) {ts us r:List Tn} (e:Ended ts) (h:listG p ts=.ok (r,us)):(∀ t∈r,p t.g=true∧t∈ts)∧r≠[]:=by
 unfold listG at h
 split at h
 ·cases h
 ·rename_i t1 us1 h1
  have g1:=(takeG_goes lp_noFin e h1).1
  split at h
  ·cases h
  ·rename_i t2 us2 h2
   obtain ⟨g2,e2,p2⟩:=takeG_goes hp g1.2 h2
   split at h
   ·cases h
   ·rename_i r3 us3 h3
    cases h
    refine ⟨fun x hx=>?_,by simp⟩
    rcases List.mem_cons.1 hx with rfl | hx
    ·exact ⟨p2,g1.suf.subset (by rw [e2];simp)⟩
    ·obtain ⟨a,b⟩:=rest_are hp (Nat.le_refl _) g2.2 h3 x hx
     exact ⟨a,(g1.trans g2).suf.subset b⟩
theorem atom_are {ts us:List Tn} {a:AtomI} (e:Ended ts) (h:atomG ts=.ok (a,us)):(∀ t∈a.terms,isTermG t.g=true∧t∈ts)∧a.terms≠[]∧isNameG a.name.g=true∧a.name∈ts:=by
 unfold atomG at h
 split at h
 ·cases h
 ·rename_i t1 us1 h1
  obtain ⟨g1,e1,p1⟩:=takeG_goes name_noFin e h1
  split at h
  ·cases h
  ·rename_i r3 us3 h3
   cases h
   obtain ⟨a1,a2⟩:=list_are term_noFin g1.2 h3
   exact ⟨fun t ht=>⟨(a1 t ht).1,g1.suf.subset (a1 t ht).2⟩,a2,p1,by rw [e1];simp⟩
end
section
open Go.RowKit
theorem str_eq {a b:ByteArray}:(a.toList == b.toList)=true↔a=b:=by
 rw [ByteArray.toList_eq,ByteArray.toList_eq,beq_iff_eq]
 constructor
 ·intro h
  obtain ⟨⟨x⟩⟩:=a
  obtain ⟨⟨y⟩⟩:=b
  have h':x=y:=h
  subst h'
  rfl
 ·intro h;rw [h]
theorem lit_toList (l:List UInt8):(⟨⟨l⟩⟩:ByteArray).toList=l:=by rw [ByteArray.toList_eq]
theorem str_lit {a:ByteArray} {l:List UInt8}:(a.toList == l)=true↔a=⟨⟨l⟩⟩:=by
 have h1:=str_eq (a:=a) (b:=⟨⟨l⟩⟩)
 have h2:=lit_toList l
 generalize ByteArray.toList ⟨⟨l⟩⟩=x at h1 h2
 subst h2
 exact h1
def kindOf:Sg→ByteArray
 | .name _=>strName
 | .var _=>strVar
 | .int _=>strInt
 | .fin=>⟨#[101,110,100]⟩
 | g=>txt g
def toTk (t:Tn):Tk:=⟨kindOf t.g,txt t.g,t.line⟩
def wordG (s:ByteArray):Sg:=if (s.toList == [100,111,109])=true then .dom else if (s.toList == [114,101,108])=true then .rel else .name s
def markG (c:Int):Sg:=if c=40 then .lp else if c=41 then .rp else if c=44 then .comma else if c=59 then .semi else if c=46 then .dot else .bang
def cutG (s:ByteArray):Option (Sg×Nat):=
 if isLow (ltr s 0) then (if spanOf isWord s≤6 then some (wordG (s.extract 0 (spanOf isWord s)),spanOf isWord s) else none)
 else if isCap (ltr s 0) then some (.var (s.extract 0 (1+spanOf isDig (s.extract 1 (min 2 s.size)))),1+spanOf isDig (s.extract 1 (min 2 s.size)))
 else if isDig (ltr s 0) then (if spanOf isDig s≤2 then some (.int (s.extract 0 (spanOf isDig s)),spanOf isDig s) else none)
 else if isMark (ltr s 0) then some (markG (ltr s 0),1)
 else if isArrow s then some (.arrow,2) else none
theorem ltr_pre {s:ByteArray} {n:Nat} {i:Nat} (hn:n≤s.size) (hi:i<n):ltr (s.extract 0 n) i=ltr s i:=by
 have h1:i<(s.extract 0 n).size:=by rw [ByteArray.size_extract];omega
 have h2:i<s.size:=by omega
 unfold ltr
 rw [dif_pos h1,dif_pos h2,ByteArray.getElem_extract]
 simp
theorem one_byte {s:ByteArray} (h0:0<s.size) {b:UInt8} (h:ltr s 0=b.toNat):s.extract 0 1=⟨#[b]⟩:=by
 have e:(s.extract 0 1).size=1:=by rw [ByteArray.size_extract];omega
 apply ByteArray.ext_getElem
 ·rw [e];rfl
 ·intro i h1 h2
  have hi:i=0:=by omega
  subst hi
  rw [ByteArray.getElem_extract]
  have h3:=ltr_at h0
  rw [h] at h3
  have h4:(s[0]).toNat=b.toNat:=by omega
  have h5:s[0]=b:=UInt8.toNat_inj.1 h4
  show s[0+0]=b
  exact h5
theorem mark_txt {s:ByteArray} (h0:0<s.size) (h:isMark (ltr s 0)=true):txt (markG (ltr s 0))=s.extract 0 1∧kindOf (markG (ltr s 0))=s.extract 0 1:=by
 simp only [isMark,Bool.or_eq_true,beq_iff_eq] at h
 rcases h with ((((h | h) | h) | h) | h) | h
 ·rw [one_byte h0 (b:=40) h,h];exact ⟨rfl,rfl⟩
 ·rw [one_byte h0 (b:=41) h,h];exact ⟨rfl,rfl⟩
 ·rw [one_byte h0 (b:=44) h,h];exact ⟨rfl,rfl⟩
 ·rw [one_byte h0 (b:=59) h,h];exact ⟨rfl,rfl⟩
 ·rw [one_byte h0 (b:=46) h,h];exact ⟨rfl,rfl⟩
 ·rw [one_byte h0 (b:=33) h,h];exact ⟨rfl,rfl⟩
theorem word_txt (s:ByteArray):txt (wordG s)=s∧kindOf (wordG s)=wordKind s:=by
 unfold wordG wordKind
 by_cases h1:(s.toList == [100,111,109])=true
 ·rw [if_pos h1,if_pos (.inl h1),str_lit.1 h1];exact ⟨rfl,rfl⟩
 ·rw [if_neg h1]
  by_cases h2:(s.toList == [114,101,108])=true
  ·rw [if_pos h2,if_pos (.inr h2),str_lit.1 h2];exact ⟨rfl,rfl⟩
  ·rw [if_neg h2,if_neg (fun h=>h.elim h1 h2)];exact ⟨rfl,rfl⟩
theorem cutG_cut {s:ByteArray} (h0:0<s.size):(cutG s).map (fun p=>(kindOf p.1,p.2))=cutOf s∧∀ g n,cutG s=some (g,n)→txt g=s.extract 0 n:=by
 unfold cutG cutOf
 split
 ·split
  ·refine ⟨by simp only [Option.map_some];rw [(word_txt _).2],fun g n h=>?_⟩
   cases h
   exact (word_txt _).1
  ·exact ⟨rfl,fun g n h=>by cases h⟩
 ·split
  ·exact ⟨rfl,fun g n h=>by cases h;rfl⟩
  ·split
   ·split
    ·exact ⟨rfl,fun g n h=>by cases h;rfl⟩
    ·exact ⟨rfl,fun g n h=>by cases h⟩
   ·split
    ·rename_i hm
     refine ⟨by simp only [Option.map_some];rw [(mark_txt h0 hm).2],fun g n h=>?_⟩
     cases h
     exact (mark_txt h0 hm).1
    ·split
     ·rename_i ha
      refine ⟨rfl,fun g n h=>?_⟩
      cases h
      unfold isArrow at ha
      simp only [Bool.and_eq_true] at ha
      exact (str_lit.1 ha.2).symm
     ·exact ⟨rfl,fun g n h=>by cases h⟩
def WfG:Sg→Prop
 | .name s=>isLow (ltr s 0)=true∧1≤s.size∧s.size≤6
 | .var s=>isCap (ltr s 0)=true∧1≤s.size∧s.size≤2
 | .int s=>(∀ i,i<s.size→isDig (ltr s i)=true)∧1≤s.size∧s.size≤2
 | .fin=>False
 | _=>True
theorem spanFrom_all {p:Int→Bool} {s:ByteArray} {i k j:Nat} (h1:i≤j) (h2:j<spanFrom p s i k):p (ltr s j)=true:=by
 induction k generalizing i with
 | zero=>simp [spanFrom] at h2;omega
 | succ k ih=>
  simp only [spanFrom] at h2
  split at h2
  ·rename_i hp
   rcases Nat.eq_or_lt_of_le h1 with rfl | h1
   ·exact hp
   ·exact ih h1 h2
  ·omega
theorem cutG_wf {s:ByteArray} (h0:0<s.size) {g:Sg} {n:Nat} (h:cutG s=some (g,n)):WfG g:=by
 unfold cutG at h
 split at h
 ·rename_i hl
  split at h
  ·rename_i h6
   cases h
   have hp:=spanOf_pos (p:=isWord) h0 (by unfold isWord;rw [hl];rfl)
   have hle:=spanOf_le isWord s
   unfold wordG
   split
   ·trivial
   ·split
    ·trivial
    ·refine ⟨by rw [ltr_pre hle (by omega)];exact hl,?_,?_⟩ <;> (rw [ByteArray.size_extract];omega)
  ·cases h
 ·split at h
  ·rename_i hc
   cases h
   have hle:=spanOf_le isDig (s.extract 1 (min 2 s.size))
   rw [ByteArray.size_extract] at hle
   refine ⟨by rw [ltr_pre (by omega) (by omega)];exact hc,?_,?_⟩ <;> (rw [ByteArray.size_extract];omega)
  ·split at h
   ·rename_i hd
    split at h
    ·rename_i h2
     cases h
     have hp:=spanOf_pos (p:=isDig) h0 hd
     have hle:=spanOf_le isDig s
     refine ⟨fun i hi=>?_,?_,?_⟩
     ·rw [ByteArray.size_extract] at hi
      rw [ltr_pre hle (by omega)]
      exact spanFrom_all (i:=0) (k:=s.size) (by omega) (show i<spanOf isDig s by omega)
     ·rw [ByteArray.size_extract];omega
     ·rw [ByteArray.size_extract];omega
    ·cases h
   ·split at h
    ·cases h
     unfold markG
     repeat' split
     all_goals trivial
    ·split at h
     ·cases h;trivial
     ·cases h
def scanT:Nat→ByteArray→Nat→(List Tn×Nat) ⊕ Nat
 | 0,_,l=>.inl ([],l)
 | k+1,s,l=>
  if s.size=0 then .inl ([],l)
  else if ltr s 0=10 then scanT k (s.extract 1 s.size) (l+1)
  else if ltr s 0=32∨ltr s 0=9 then scanT k (s.extract 1 s.size) l
  else if ltr s 0=37 then scanT k (s.extract (spanOf notEol s) s.size) l
  else match cutG s with
   | none=>.inr l
   | some (g,n)=>match scanT k (s.extract n s.size) l with
    | .inl (ts,m)=>.inl (⟨g,l⟩ :: ts,m)
    | .inr m=>.inr m
def tokTks:(List Tn×Nat) ⊕ Nat→(List Tk×Nat) ⊕ Nat
 | .inl (ts,m)=>.inl (ts.map toTk,m)
 | .inr m=>.inr m
theorem scanT_scan (k:Nat) (s:ByteArray) (l:Nat):scanOf k s l=tokTks (scanT k s l):=by
 induction k generalizing s l with
 | zero=>rfl
 | succ k ih=>
  simp only [scanOf,scanT]
  split
  ·rfl
  ·rename_i hz
   have h0:0<s.size:=by omega
   split
   ·exact ih ..
   ·split
    ·exact ih ..
    ·split
     ·exact ih ..
     ·obtain ⟨h1,h2⟩:=cutG_cut h0
      cases hc:cutG s with
      | none=>rw [hc] at h1;rw [←h1];rfl
      | some p=>
       obtain ⟨g,n⟩:=p
       rw [hc] at h1
       rw [←h1]
       simp only [Option.map_some]
       rw [ih]
       cases scanT k (s.extract n s.size) l with
       | inl q=>
        simp only [tokTks,List.map_cons,toTk]
        rw [h2 g n hc]
       | inr q=>rfl
theorem scanT_wf {k:Nat} {s:ByteArray} {l:Nat} {ts:List Tn} {m:Nat} (h:scanT k s l=.inl (ts,m)):∀ t∈ts,WfG t.g:=by
 induction k generalizing s l ts m with
 | zero=>cases h;intro t ht;cases ht
 | succ k ih=>
  simp only [scanT] at h
  split at h
  ·cases h;intro t ht;cases ht
  ·rename_i hz
   split at h
   ·exact ih h
   ·split at h
    ·exact ih h
    ·split at h
     ·exact ih h
     ·split at h
      ·cases h
      ·rename_i g n hc
       split at h
       ·rename_i us m' hr
        cases h
        intro t ht
        rcases List.mem_cons.1 ht with rfl | ht
        ·exact cutG_wf (by omega) hc
        ·exact ih hr t ht
       ·cases h
def withEnd (ts:List Tn) (m:Nat):List Tn:=ts++[⟨.fin,m⟩]
theorem scanT_ended {k:Nat} {s:ByteArray} {l:Nat} {ts:List Tn} {m:Nat} (h:scanT k s l=.inl (ts,m)):Ended (withEnd ts m):=by
 refine ⟨ts,m,rfl,fun t ht=>?_⟩
 have:=scanT_wf h t ht
 cases hg:t.g <;> rw [hg] at this <;> first | rfl | exact this.elim
end
section
open Go.RowKit
theorem ltrG_ltr (s:ByteArray) (i:Nat):ltrG s i=ltr s i:=rfl
theorem valTo_range {s:ByteArray} (h:∀ i,i<s.size→isDig (ltr s i)=true) {k:Nat} (hk:k≤s.size) (h2:s.size≤2):0≤valTo s k∧valTo s k<100:=by
 have hd:∀ i,i<s.size→48≤ltr s i∧ltr s i≤57:=fun i hi=>by
  have:=h i hi
  simp only [isDig,Bool.and_eq_true,decide_eq_true_eq] at this
  exact this
 match k,hk with
 | 0,_=>simp [valTo]
 | 1,hk=>have:=hd 0 (by omega);simp only [valTo,ltrG_ltr];omega
 | 2,hk=>have:=hd 0 (by omega);have:=hd 1 (by omega);simp only [valTo,ltrG_ltr];omega
 | k+3,hk=>omega
end
section
open Go.RowKit
def emptyM:Mean:=⟨[],[],[]⟩
def readS (s:ByteArray):Except Flt (List Tn×Mean):=
 if 1200<s.size then .error (4,0)
 else match scanT s.size s 1 with
  | .inr l=>.error (5,l)
  | .inl (ts,m)=>match itemsG (withEnd ts m).length (withEnd ts m) with
   | .error l=>.error (5,l)
   | .ok is=>match senseS emptyM is with
    | .error f=>.error f
    | .ok me=>match laterS me with
     | .error f=>.error f
     | .ok _=>.ok (withEnd ts m,me)
theorem scanT_len {k:Nat} {s:ByteArray} {l:Nat} {ts:List Tn} {m:Nat} (h:scanT k s l=.inl (ts,m)):ts.length≤s.size∧m≤l+s.size∧(∀ t∈ts,t.line≤l+s.size)∧∀ t∈ts,(txt t.g).size≤s.size:=by
 induction k generalizing s l ts m with
 | zero=>cases h;simp
 | succ k ih=>
  simp only [scanT] at h
  split at h
  ·cases h;simp
  ·rename_i hz
   have h0:0<s.size:=by omega
   have goes:∀ (n l':Nat),1≤n→l'≤l+1→(n=0∨l'≤l+n)→scanT k (s.extract n s.size) l' = .inl (ts,m)→ts.length≤s.size∧m≤l+s.size∧(∀ t∈ts,t.line≤l+s.size)∧∀ t∈ts,(txt t.g).size≤s.size:=by
    intro n l' hn hl' hln hr
    obtain ⟨a1,a2,a3,a4⟩:=ih hr
    rw [ByteArray.size_extract] at a1 a2 a3 a4
    rcases Nat.lt_or_ge s.size n with hsn | hsn
    ·have e:min s.size s.size - n=0:=by omega
     rw [e] at a1 a2 a3 a4
     exact ⟨by omega,by omega,fun t ht=>by have:=a3 t ht;omega,fun t ht=>by have:=a4 t ht;omega⟩
    ·exact ⟨by omega,by omega,fun t ht=>by have:=a3 t ht;omega,fun t ht=>by have:=a4 t ht;omega⟩
   split at h
   ·exact goes 1 (l+1) (by omega) (by omega) (by omega) h
   ·split at h
    ·exact goes 1 l (by omega) (by omega) (by omega) h
    ·split at h
     ·rename_i h37
      have hp:1≤spanOf notEol s:=spanOf_pos h0 (by rw [h37];rfl)
      exact goes _ l hp (by omega) (by omega) h
     ·obtain ⟨c1,c2⟩:=cutG_cut h0
      split at h
      ·cases h
      ·rename_i g n hc
       rw [hc] at c1
       obtain ⟨r1,r2⟩:=cutOf_range h0 c1.symm
       split at h
       ·rename_i us m' hr
        cases h
        obtain ⟨a1,a2,a3,a4⟩:=ih hr
        rw [ByteArray.size_extract] at a1 a2 a3 a4
        refine ⟨by simp;omega,by omega,fun t ht=>?_,fun t ht=>?_⟩
        ·rcases List.mem_cons.1 ht with rfl | ht
         ·simp
         ·have:=a3 t ht;omega
        ·rcases List.mem_cons.1 ht with rfl | ht
         ·show (txt g).size≤_
          rw [c2 g n hc,ByteArray.size_extract];omega
         ·have:=a4 t ht;omega
       ·cases h
end
end Go.Proofs.YtgjomknpjigkhaaGreatDoor
