import Derived.Test.YtgjomknpjigkhaaGreatDoorU02
namespace Go.Proofs.YtgjomknpjigkhaaGreatDoor
set_option maxRecDepth 100000
set_option maxHeartbeats 4000000
section
inductive Sg where
 | dom | rel | lp | rp | comma | semi | dot | bang | arrow | fin
 | name (s:ByteArray)
 | var (s:ByteArray)
 | int (s:ByteArray)
structure Tn where
 g:Sg
 line:Nat
def fQC:Sg→Bool | .name _=>true | _=>false
def zQA:Sg→Bool | .var _=>true | .int _=>true | _=>false
def isIntG:Sg→Bool | .int _=>true | _=>false
def zQK:Sg→Bool | .var _=>true | _=>false
def isDomG:Sg→Bool | .dom=>true | _=>false
def isRelG:Sg→Bool | .rel=>true | _=>false
def isLpG:Sg→Bool | .lp=>true | _=>false
def isRpG:Sg→Bool | .rp=>true | _=>false
def uQI:Sg→Bool | .comma=>true | _=>false
def isSemiG:Sg→Bool | .semi=>true | _=>false
def isDotG:Sg→Bool | .dot=>true | _=>false
def isBangG:Sg→Bool | .bang=>true | _=>false
def isArrowG:Sg→Bool | .arrow=>true | _=>false
def isFinG:Sg→Bool | .fin=>true | _=>false
def cQC (p:Sg→Bool):List Tn→Except Nat (Tn×List Tn)
 | []=>.error 0
 | t :: ts=>if p t.g then .ok (t,ts) else .error t.line
def sees (p:Sg→Bool):List Tn→Bool
 | []=>false
 | t :: _=>p t.g
structure dQE where
 name:Tn
 terms:List Tn
structure LitI where
 atom:dQE
 no:Bool
inductive vQB where
 | dom (name size:Tn)
 | rel (name:Tn) (cols:List Tn)
 | clause (head:dQE) (lits:List LitI)
def bQG (p:Sg→Bool):Nat→List Tn→Except Nat (List Tn×List Tn)
 | 0,ts=>.ok ([],ts)
 | k+1,ts=>
  if sees uQI ts then
   match cQC p ts.tail with
   | .error l=>.error l
   | .ok (t,us)=>match bQG p k us with
    | .error l=>.error l
    | .ok (r,vs)=>.ok (t :: r,vs)
  else match cQC isRpG ts with
   | .error l=>.error l
   | .ok (_,us)=>.ok ([],us)
def aQH (p:Sg→Bool) (ts:List Tn):Except Nat (List Tn×List Tn):=
 match cQC isLpG ts with
 | .error l=>.error l
 | .ok (_,us)=>match cQC p us with
  | .error l=>.error l
  | .ok (t,vs)=>match bQG p vs.length vs with
   | .error l=>.error l
   | .ok (r,xs)=>.ok (t :: r,xs)
def gQI (ts:List Tn):Except Nat (dQE×List Tn):=
 match cQC fQC ts with
 | .error l=>.error l
 | .ok (n,us)=>match aQH zQA us with
  | .error l=>.error l
  | .ok (r,vs)=>.ok (⟨n,r⟩,vs)
def litG (ts:List Tn):Except Nat (LitI×List Tn):=
 if sees isBangG ts then
  match gQI ts.tail with
  | .error l=>.error l
  | .ok (a,us)=>.ok (⟨a,true⟩,us)
 else match gQI ts with
  | .error l=>.error l
  | .ok (a,us)=>.ok (⟨a,false⟩,us)
def tQK:Nat→List Tn→Except Nat (List LitI×List Tn)
 | 0,ts=>.ok ([],ts)
 | k+1,ts=>
  if sees uQI ts then
   match litG ts.tail with
   | .error l=>.error l
   | .ok (t,us)=>match tQK k us with
    | .error l=>.error l
    | .ok (r,vs)=>.ok (t :: r,vs)
  else match cQC isDotG ts with
   | .error l=>.error l
   | .ok (_,us)=>.ok ([],us)
def eQJ (ts:List Tn):Except Nat (List LitI×List Tn):=
 if sees isArrowG ts then
  match litG ts.tail with
  | .error l=>.error l
  | .ok (t,us)=>match tQK us.length us with
   | .error l=>.error l
   | .ok (r,vs)=>.ok (t :: r,vs)
 else match cQC isDotG ts with
  | .error l=>.error l
  | .ok (_,us)=>.ok ([],us)
def sQI (ts:List Tn):Except Nat (vQB×List Tn):=
 if sees isDomG ts then
  match cQC fQC ts.tail with
  | .error l=>.error l
  | .ok (n,us)=>match cQC isIntG us with
   | .error l=>.error l
   | .ok (i,vs)=>match cQC isSemiG vs with
    | .error l=>.error l
    | .ok (_,xs)=>.ok (.dom n i,xs)
 else if sees isRelG ts then
  match cQC fQC ts.tail with
  | .error l=>.error l
  | .ok (n,us)=>match aQH fQC us with
   | .error l=>.error l
   | .ok (c,vs)=>match cQC isSemiG vs with
    | .error l=>.error l
    | .ok (_,xs)=>.ok (.rel n c,xs)
 else match gQI ts with
  | .error l=>.error l
  | .ok (a,us)=>match eQJ us with
   | .error l=>.error l
   | .ok (b,vs)=>.ok (.clause a b,vs)
def zQC:Nat→List Tn→Except Nat (List vQB)
 | 0,_=>.ok []
 | k+1,ts=>
  if sees isFinG ts then .ok []
  else match sQI ts with
   | .error l=>.error l
   | .ok (i,us)=>match zQC k us with
    | .error l=>.error l
    | .ok r=>.ok (i :: r)
def bQC (ts:List Tn):Prop:=∃ us l,ts=us++[⟨.fin,l⟩]∧∀ t∈us,isFinG t.g=false
theorem bQC.cons {ts:List Tn} (h:bQC ts):∃ t us,ts=t :: us:=by
 obtain ⟨us,l,rfl,_⟩:=h;cases us with
 | nil=>exact ⟨_,_,rfl⟩
 | cons t us=>exact ⟨t,us++[⟨.fin,l⟩],rfl⟩
theorem bQC.tail {t:Tn} {ts:List Tn} (h:bQC (t :: ts)) (hf:isFinG t.g=false):bQC ts:=by
 obtain ⟨us,l,he,hn⟩:=h;cases us with
 | nil=>simp at he;rw [he.1] at hf;cases hf
 | cons u us=>
  simp at he;exact ⟨us,l,he.2,fun t ht=>hn t (by simp [ht])⟩
def iQG (p:Sg→Bool):Prop:=p .fin=false
theorem iQG.no {p:Sg→Bool} (h:iQG p) {g:Sg} (hg:p g=true):isFinG g=false:=by
 cases g <;> first | rfl | (rw [h] at hg;cases hg)
structure GoesG (ts us:List Tn):Prop where
 less:us.length<ts.length
 ended:bQC us
 suf:us <:+ ts
theorem GoesG.trans {a b c:List Tn} (h:GoesG a b) (k:GoesG b c):GoesG a c:=⟨by have:=h.1;have:=k.1;omega,k.2,k.3.trans h.3⟩
theorem oQA {p:Sg→Bool} (hp:iQG p) {ts us:List Tn} {t:Tn} (e:bQC ts) (h:cQC p ts=.ok (t,us)):GoesG ts us∧ts=t :: us∧p t.g=true:=by
 cases ts with
 | nil=>cases h
 | cons x ts=>
  simp only [cQC] at h;split at h
  ·rename_i hx;cases h;exact ⟨⟨by simp,e.tail (hp.no hx),List.suffix_cons _ _⟩,rfl,hx⟩
  ·cases h
theorem qQB {p:Sg→Bool} (hp:iQG p) {ts:List Tn} (e:bQC ts) (h:sees p ts=true):GoesG ts ts.tail:=by
 cases ts with
 | nil=>cases h
 | cons x ts=>exact ⟨by simp,e.tail (hp.no h),List.suffix_cons _ _⟩
theorem takeG_sees {p:Sg→Bool} {ts:List Tn} (h:sees p ts=true):∃ t,ts=t :: ts.tail∧p t.g=true∧cQC p ts=.ok (t,ts.tail):=by
 cases ts with
 | nil=>cases h
 | cons x ts=>
  have hx:p x.g=true:=h;exact ⟨x,rfl,h,by simp only [cQC];rw [if_pos hx];rfl⟩
theorem mQD:iQG uQI:=rfl
theorem rp_noFin:iQG isRpG:=rfl
theorem lp_noFin:iQG isLpG:=rfl
theorem lQC:iQG fQC:=rfl
theorem lQK:iQG zQA:=rfl
theorem int_noFin:iQG isIntG:=rfl
theorem semi_noFin:iQG isSemiG:=rfl
theorem dot_noFin:iQG isDotG:=rfl
theorem bang_noFin:iQG isBangG:=rfl
theorem xQL:iQG isArrowG:=rfl
theorem dom_noFin:iQG isDomG:=rfl
theorem rel_noFin:iQG isRelG:=rfl
theorem restG_goes {p:Sg→Bool} (hp:iQG p) {k:Nat} {ts us:List Tn} {r:List Tn} (hk:ts.length≤k) (e:bQC ts) (h:bQG p k ts=.ok (r,us)):GoesG ts us:=by
 induction k generalizing ts us r with
 | zero=>
  obtain ⟨t,us,rfl⟩:=e.cons;simp at hk
 | succ k ih=>
  simp only [bQG] at h;split at h
  ·rename_i hc;have g1:=qQB mQD e hc;split at h
   ·cases h
   ·rename_i t us' ht;have g2:=(oQA hp g1.2 ht).1;split at h
    ·cases h
    ·rename_i r' vs hr;cases h;exact (g1.trans g2).trans (ih (by have:=g1.1;have:=g2.1;omega) g2.2 hr)
  ·split at h
   ·cases h
   ·rename_i t us' ht;cases h;exact (oQA rp_noFin e ht).1
theorem listG_goes {p:Sg→Bool} (hp:iQG p) {ts us:List Tn} {r:List Tn} (e:bQC ts) (h:aQH p ts=.ok (r,us)):GoesG ts us:=by
 unfold aQH at h;split at h
 ·cases h
 ·rename_i t1 us1 h1;have g1:=(oQA lp_noFin e h1).1;split at h
  ·cases h
  ·rename_i t2 us2 h2;have g2:=(oQA hp g1.2 h2).1;split at h
   ·cases h
   ·rename_i r3 us3 h3;cases h;exact (g1.trans g2).trans (restG_goes hp (Nat.le_refl _) g2.2 h3)
theorem fQI {ts us:List Tn} {a:dQE} (e:bQC ts) (h:gQI ts=.ok (a,us)):GoesG ts us:=by
 unfold gQI at h;split at h
 ·cases h
 ·rename_i t1 us1 h1;have g1:=(oQA lQC e h1).1;split at h
  ·cases h
  ·rename_i r3 us3 h3;cases h;exact g1.trans (listG_goes lQK g1.2 h3)
theorem zQH {ts us:List Tn} {a:LitI} (e:bQC ts) (h:litG ts=.ok (a,us)):GoesG ts us:=by
 unfold litG at h;split at h
 ·rename_i hc;have g1:=qQB bang_noFin e hc;split at h
  ·cases h
  ·rename_i r3 us3 h3;cases h;exact g1.trans (fQI g1.2 h3)
 ·split at h
  ·cases h
  ·rename_i r3 us3 h3;cases h;exact fQI e h3
theorem litsG_goes {k:Nat} {ts us:List Tn} {r:List LitI} (hk:ts.length≤k) (e:bQC ts) (h:tQK k ts=.ok (r,us)):GoesG ts us:=by
 induction k generalizing ts us r with
 | zero=>
  obtain ⟨t,us,rfl⟩:=e.cons;simp at hk
 | succ k ih=>
  simp only [tQK] at h;split at h
  ·rename_i hc;have g1:=qQB mQD e hc;split at h
   ·cases h
   ·rename_i t us' ht;have g2:=zQH g1.2 ht;split at h
    ·cases h
    ·rename_i r' vs hr;cases h;exact (g1.trans g2).trans (ih (by have:=g1.1;have:=g2.1;omega) g2.2 hr)
  ·split at h
   ·cases h
   ·rename_i t us' ht;cases h;exact (oQA dot_noFin e ht).1
theorem bodyG_goes {ts us:List Tn} {r:List LitI} (e:bQC ts) (h:eQJ ts=.ok (r,us)):GoesG ts us:=by
 unfold eQJ at h;split at h
 ·rename_i hc;have g1:=qQB xQL e hc;split at h
  ·cases h
  ·rename_i t us' ht;have g2:=zQH g1.2 ht;split at h
   ·cases h
   ·rename_i r' vs hr;cases h;exact (g1.trans g2).trans (litsG_goes (Nat.le_refl _) g2.2 hr)
 ·split at h
  ·cases h
  ·rename_i t us' ht;cases h;exact (oQA dot_noFin e ht).1
theorem itemG_goes {ts us:List Tn} {i:vQB} (e:bQC ts) (h:sQI ts=.ok (i,us)):GoesG ts us:=by
 unfold sQI at h;split at h
 ·rename_i hc;have g1:=qQB dom_noFin e hc;split at h
  ·cases h
  ·rename_i t2 us2 h2;have g2:=(oQA lQC g1.2 h2).1;split at h
   ·cases h
   ·rename_i t3 us3 h3;have g3:=(oQA int_noFin g2.2 h3).1;split at h
    ·cases h
    ·rename_i t4 us4 h4;cases h;exact ((g1.trans g2).trans g3).trans (oQA semi_noFin g3.2 h4).1
 ·split at h
  ·rename_i hc;have g1:=qQB rel_noFin e hc;split at h
   ·cases h
   ·rename_i t2 us2 h2;have g2:=(oQA lQC g1.2 h2).1;split at h
    ·cases h
    ·rename_i t3 us3 h3;have g3:=listG_goes lQC g2.2 h3;split at h
     ·cases h
     ·rename_i t4 us4 h4;cases h;exact ((g1.trans g2).trans g3).trans (oQA semi_noFin g3.2 h4).1
  ·split at h
   ·cases h
   ·rename_i a us1 h1;have g1:=fQI e h1;split at h
    ·cases h
    ·rename_i b us2 h2;cases h;exact g1.trans (bodyG_goes g1.2 h2)
end
section
def ltrG (s:ByteArray) (i:Nat):Int:=if h:i<s.size then (s[i].toNat:Int) else 0
def valTo (s:ByteArray):Nat→Int
 | 0=>0
 | k+1=>10 * valTo s k+(ltrG s k - 48)
def txt:Sg→ByteArray
 | .dom=>⟨#[100,111,109]⟩ | .rel=>⟨#[114,101,108]⟩ | .lp=>⟨#[40]⟩ | .rp=>⟨#[41]⟩ | .comma=>⟨#[44]⟩ | .semi=>⟨#[59]⟩
 | .dot=>⟨#[46]⟩ | .bang=>⟨#[33]⟩ | .arrow=>⟨#[58,45]⟩ | .fin=>⟨#[]⟩
 | .name s=>s | .var s=>s | .int s=>s
def yQC:Sg→Int
 | .int s=>valTo s s.size
 | _=>0
structure uQA where
 isVar:Bool
 num:Int
structure yQA where
 rel:Nat
 terms:List uQA
structure iQA where
 head:yQA
 lits:List (yQA×Bool)
 line:Nat
structure Mean where
 doms:List (ByteArray×Int)
 rels:List (ByteArray×List Nat)
 clauses:List iQA
abbrev Flt:=Nat×Nat
abbrev aQB:=List (ByteArray×Nat)
def yQB {A:Type} (l:List (ByteArray×A)) (s:ByteArray):Option Nat:=l.findIdx? (fun p=>decide (p.1=s))
def Mean.dom (m:Mean) (s:ByteArray):Option Nat:=yQB m.doms s
def Mean.rel (m:Mean) (s:ByteArray):Option Nat:=yQB m.rels s
def Mean.taken (m:Mean) (s:ByteArray):Bool:=(m.dom s).isSome || (m.rel s).isSome
def Mean.size (m:Mean) (d:Nat):Int:=(m.doms[d]?.map (·.2)).getD 0
def Mean.cols (m:Mean) (r:Nat):List Nat:=(m.rels[r]?.map (·.2)).getD []
def addDom (m:Mean) (n i:Tn):Except Flt Mean:=
 if m.doms.length=4 then .error (6,n.line)
 else if m.taken (txt n.g) then .error (7,n.line)
 else if yQC i.g<1∨8<yQC i.g then .error (9,i.line)
 else .ok { m with doms:=m.doms++[(txt n.g,yQC i.g)] }
def colsS (m:Mean):Nat→List Tn→Except Flt (List Nat)
 | _,[]=>.ok []
 | k,c :: cs=>
  if k=3 then .error (6,c.line)
  else match m.dom (txt c.g) with
   | none=>.error (8,c.line)
   | some d=>match colsS m (k+1) cs with
    | .error f=>.error f
    | .ok ds=>.ok (d :: ds)
def addRel (m:Mean) (n:Tn) (cs:List Tn):Except Flt Mean:=
 if m.rels.length=6 then .error (6,n.line)
 else if m.taken (txt n.g) then .error (7,n.line)
 else match colsS m 0 cs with
  | .error f=>.error f
  | .ok ds=>.ok { m with rels:=m.rels++[(txt n.g,ds)] }
def termS (m:Mean) (sc:aQB) (t:Tn) (d:Nat):Except Flt (uQA×aQB):=
 if zQK t.g then
  match yQB sc (txt t.g) with
  | some p=>if (sc[p]?.map (·.2)).getD 0≠d then .error (11,t.line) else .ok (⟨true,p⟩,sc)
  | none=>if sc.length=4 then .error (6,t.line) else .ok (⟨true,sc.length⟩,sc++[(txt t.g,d)])
 else if m.size d≤yQC t.g then .error (9,t.line) else .ok (⟨false,yQC t.g⟩,sc)
def kQE (m:Mean) (sc:aQB):List Tn→List Nat→Except Flt (List uQA×aQB)
 | t :: ts,d :: ds=>match termS m sc t d with
  | .error f=>.error f
  | .ok (x,sc')=>match kQE m sc' ts ds with
   | .error f=>.error f
   | .ok (xs,sc'')=>.ok (x :: xs,sc'')
 | _,_=>.ok ([],sc)
def wQL (m:Mean) (sc:aQB) (a:dQE):Except Flt (yQA×aQB):=
 match m.rel (txt a.name.g) with
 | none=>.error (8,a.name.line)
 | some r=>if a.terms.length≠(m.cols r).length then .error (10,a.name.line)
  else match kQE m sc a.terms (m.cols r) with
   | .error f=>.error f
   | .ok (xs,sc')=>.ok (⟨r,xs⟩,sc')
def eQG (m:Mean) (sc:aQB):Nat→List LitI→Except Flt (List (yQA×Bool)×aQB)
 | _,[]=>.ok ([],sc)
 | k,l :: ls=>
  if k=4 then .error (6,l.atom.name.line)
  else match wQL m sc l.atom with
   | .error f=>.error f
   | .ok (x,sc')=>match eQG m sc' (k+1) ls with
    | .error f=>.error f
    | .ok (xs,sc'')=>.ok ((x,l.no) :: xs,sc'')
def addClause (m:Mean) (h:dQE) (ls:List LitI):Except Flt Mean:=
 if m.clauses.length=52 then .error (6,h.name.line)
 else match wQL m [] h with
  | .error f=>.error f
  | .ok (x,sc)=>match eQG m sc 0 ls with
   | .error f=>.error f
   | .ok (xs,_)=>.ok { m with clauses:=m.clauses++[⟨x,xs,h.name.line⟩] }
def nQD (m:Mean):vQB→Except Flt Mean
 | .dom n i=>addDom m n i
 | .rel n cs=>addRel m n cs
 | .clause h ls=>addClause m h ls
def xQB (m:Mean):List vQB→Except Flt Mean
 | []=>.ok m
 | i :: is=>match nQD m i with
  | .error f=>.error f
  | .ok m'=>xQB m' is
end
section
def Once {A:Type} (l:List (ByteArray×A)):Prop:=∀ (i j:Nat) (a b:ByteArray×A),l[i]?=some a→l[j]?=some b→a.1=b.1→i=j
theorem oQJ {A:Type} {l:List (ByteArray×A)} {s:ByteArray} {p:Nat} (h:yQB l s=some p):∃ a,l[p]?=some (s,a):=by
 unfold yQB at h;obtain ⟨hp,he,_⟩:=List.findIdx?_eq_some_iff_getElem.1 h;have:l[p].1=s:=by simpa using he
 exact ⟨l[p].2,by rw [List.getElem?_eq_getElem hp,←this]⟩
theorem placeIn_none {A:Type} {l:List (ByteArray×A)} {s:ByteArray} (h:yQB l s=none):∀ a∈l,a.1≠s:=by
 unfold yQB at h;intro a ha e;have:=List.findIdx?_eq_none_iff.1 h a ha;simp [e] at this
theorem Once.push {A:Type} {l:List (ByteArray×A)} (h:Once l) {s:ByteArray} (hs:yQB l s=none) (a:A):Once (l++[(s,a)]):=by
 have hn:=placeIn_none hs;intro i j x y hi hj e;rw [List.getElem?_append] at hi hj;split at hi
 ·split at hj
  ·exact h i j x y hi hj e
  ·exfalso;have hy:y=(s,a):=by
    cases hk:j - l.length with
    | zero=>rw [hk] at hj;simpa using hj.symm
    | succ k=>rw [hk] at hj;simp at hj
   subst hy;exact hn x (List.mem_of_getElem? hi) e
 ·split at hj
  ·exfalso;have hy:x=(s,a):=by
    cases hk:i - l.length with
    | zero=>rw [hk] at hi;simpa using hi.symm
    | succ k=>rw [hk] at hi;simp at hi
   subst hy;exact hn y (List.mem_of_getElem? hj) e.symm
  ·have h1:i - l.length=0:=by
    cases hk:i - l.length with
    | zero=>rfl
    | succ k=>rw [hk] at hi;simp at hi
   have h2:j - l.length=0:=by
    cases hk:j - l.length with
    | zero=>rfl
    | succ k=>rw [hk] at hj;simp at hj
   omega
def MatchT (sc:aQB) (t:Tn) (x:uQA):Prop:=x.isVar=zQK t.g∧(x.isVar=true→∃ (p:Nat) (d:Nat),x.num=(p:Int)∧sc[p]?=some (txt t.g,d))
def sQF (sc:aQB):List Tn→List uQA→Prop
 | [],[]=>True
 | t :: ts,x :: xs=>MatchT sc t x∧sQF sc ts xs
 | _,_=>False
def kQF (a b:aQB):Prop:=∃ l,b=a++l
theorem kQF.refl (a:aQB):kQF a a:=⟨[],by simp⟩
theorem kQF.trans {a b c:aQB} (h:kQF a b) (k:kQF b c):kQF a c:=by
 obtain ⟨l,rfl⟩:=h;obtain ⟨m,rfl⟩:=k;exact ⟨l++m,by simp⟩
theorem kQF.at {a b:aQB} (h:kQF a b) {p:Nat} {x:ByteArray×Nat} (hp:a[p]?=some x):b[p]?=some x:=by
 obtain ⟨l,rfl⟩:=h;have hl:p<a.length:=by
  rcases Nat.lt_or_ge p a.length with h | h
  ·exact h
  ·rw [List.getElem?_eq_none h] at hp;cases hp
 rw [List.getElem?_append_left hl];exact hp
theorem MatchT.grows {a b:aQB} {t:Tn} {x:uQA} (h:MatchT a t x) (g:kQF a b):MatchT b t x:=⟨h.1,fun hv=>by
 obtain ⟨p,d,h1,h2⟩:=h.2 hv;exact ⟨p,d,h1,g.at h2⟩⟩
theorem sQF.grows {a b:aQB} {ts:List Tn} {xs:List uQA} (h:sQF a ts xs) (g:kQF a b):sQF b ts xs:=by
 induction ts generalizing xs with
 | nil=>cases xs with
  | nil=>trivial
  | cons x xs=>exact h.elim
 | cons t ts ih=>cases xs with
  | nil=>exact h.elim
  | cons x xs=>exact ⟨h.1.grows g,ih h.2⟩
theorem termS_match {m:Mean} {sc sc':aQB} {t:Tn} {d:Nat} {x:uQA} (ho:Once sc) (h4:sc.length≤4) (h:termS m sc t d=.ok (x,sc')):MatchT sc' t x∧kQF sc sc'∧Once sc'∧sc'.length≤4:=by
 unfold termS at h;split at h
 ·rename_i hv;split at h
  ·rename_i p hp;split at h
   ·cases h
   ·cases h;obtain ⟨a,ha⟩:=oQJ hp;exact ⟨⟨hv.symm,fun _=>⟨p,a,rfl,ha⟩⟩,kQF.refl _,ho,h4⟩
  ·rename_i hp;split at h
   ·cases h
   ·rename_i h44;cases h;refine ⟨⟨hv.symm,fun _=>⟨sc.length,d,rfl,?_⟩⟩,⟨_,rfl⟩,ho.push hp d,?_⟩
    ·rw [List.getElem?_append_right (Nat.le_refl _)];simp
    ·rw [List.length_append,List.length_singleton];omega
 ·rename_i hv;split at h
  ·cases h
  ·cases h;exact ⟨⟨by simpa using hv,fun hc=>by cases hc⟩,kQF.refl _,ho,h4⟩
theorem termsS_match {m:Mean} {sc sc':aQB} {ts:List Tn} {ds:List Nat} {xs:List uQA} (hl:ts.length=ds.length) (ho:Once sc) (h4:sc.length≤4) (h:kQE m sc ts ds=.ok (xs,sc')):sQF sc' ts xs∧kQF sc sc'∧Once sc'∧sc'.length≤4:=by
 induction ts generalizing sc sc' ds xs with
 | nil=>simp only [kQE] at h;cases h;exact ⟨trivial,kQF.refl _,ho,h4⟩
 | cons t ts ih=>cases ds with
  | nil=>cases hl
  | cons d ds=>
   simp only [kQE] at h;split at h
   ·cases h
   ·rename_i x sc1 h1;obtain ⟨m1,g1,o1,l1⟩:=termS_match ho h4 h1;split at h
    ·cases h
    ·rename_i xs' sc2 h2;cases h;obtain ⟨m2,g2,o2,l2⟩:=ih (by simpa using hl) o1 l1 h2;exact ⟨⟨m1.grows g2,m2⟩,g1.trans g2,o2,l2⟩
theorem xQI {m:Mean} {sc sc':aQB} {a:dQE} {x:yQA} (ho:Once sc) (h4:sc.length≤4) (h:wQL m sc a=.ok (x,sc')):sQF sc' a.terms x.terms∧kQF sc sc'∧Once sc'∧sc'.length≤4:=by
 unfold wQL at h;split at h
 ·cases h
 ·split at h
  ·cases h
  ·rename_i hl;split at h
   ·cases h
   ·rename_i h1;cases h;exact termsS_match (by simpa using hl) ho h4 h1
def hQK (sc:aQB):List LitI→List (yQA×Bool)→Prop
 | [],[]=>True
 | l :: ls,x :: xs=>sQF sc l.atom.terms x.1.terms∧x.2=l.no∧hQK sc ls xs
 | _,_=>False
theorem litsS_match {m:Mean} {sc sc':aQB} {k:Nat} {ls:List LitI} {xs:List (yQA×Bool)} (ho:Once sc) (h4:sc.length≤4) (h:eQG m sc k ls=.ok (xs,sc')):hQK sc' ls xs∧kQF sc sc'∧Once sc'∧sc'.length≤4:=by
 induction ls generalizing sc sc' k xs with
 | nil=>simp only [eQG] at h;cases h;exact ⟨trivial,kQF.refl _,ho,h4⟩
 | cons l ls ih=>
  simp only [eQG] at h;split at h
  ·cases h
  ·split at h
   ·cases h
   ·rename_i x sc1 h1;obtain ⟨m1,g1,o1,l1⟩:=xQI ho h4 h1;split at h
    ·cases h
    ·rename_i xs' sc2 h2;cases h;obtain ⟨m2,g2,o2,l2⟩:=ih o1 l1 h2;exact ⟨⟨m1.grows g2,rfl,m2⟩,g1.trans g2,o2,l2⟩
def MatchC (c:dQE×List LitI) (x:iQA):Prop:=∃ sc,Once sc∧sc.length≤4∧sQF sc c.1.terms x.head.terms∧hQK sc c.2 x.lits∧x.line=c.1.name.line
def eQF:List (dQE×List LitI)→List iQA→Prop
 | [],[]=>True
 | c :: cs,x :: xs=>MatchC c x∧eQF cs xs
 | _,_=>False
theorem eQF.append {a b:List (dQE×List LitI)} {x y:List iQA} (h:eQF a x) (k:eQF b y):eQF (a++b) (x++y):=by
 induction a generalizing x with
 | nil=>cases x with
  | nil=>exact k
  | cons _ _=>exact h.elim
 | cons c a ih=>cases x with
  | nil=>exact h.elim
  | cons z x=>exact ⟨h.1,ih h.2⟩
def oQG:List vQB→List (dQE×List LitI)
 | []=>[]
 | .clause h ls :: is=>(h,ls) :: oQG is
 | _ :: is=>oQG is
def clauseI:vQB→List (dQE×List LitI)
 | .clause h ls=>[(h,ls)]
 | _=>[]
theorem eQK {m m':Mean} {a:dQE} {ls:List LitI} (h:addClause m a ls=.ok m'):∃ x,m'.clauses=m.clauses++[x]∧MatchC (a,ls) x∧m'.doms=m.doms∧m'.rels=m.rels:=by
 unfold addClause at h;split at h
 ·cases h
 ·split at h
  ·cases h
  ·rename_i x sc h1;obtain ⟨m1,g1,o1,l1⟩:=xQI (sc:=[]) (by intro i j a b h;simp at h) (by simp) h1;split at h
   ·cases h
   ·rename_i xs sc2 h2;obtain ⟨m2,g2,o2,l2⟩:=litsS_match o1 l1 h2;cases h;exact ⟨_,rfl,⟨sc2,o2,l2,m1.grows g2,m2,rfl⟩,rfl,rfl⟩
theorem addItem_match {m m':Mean} {i:vQB} {cs:List (dQE×List LitI)} (hm:eQF cs m.clauses) (h:nQD m i=.ok m'):eQF (cs++clauseI i) m'.clauses:=by
 cases i with
 | dom n z=>
  simp only [nQD,addDom] at h;split at h
  ·cases h
  ·split at h
   ·cases h
   ·split at h
    ·cases h
    ·cases h;simpa [clauseI] using hm
 | rel n z=>
  simp only [nQD,addRel] at h;split at h
  ·cases h
  ·split at h
   ·cases h
   ·split at h
    ·cases h
    ·cases h;simpa [clauseI] using hm
 | clause a ls=>
  obtain ⟨x,h1,h2,_⟩:=eQK h;rw [h1];exact hm.append ⟨h2,trivial⟩
theorem senseS_match {m m':Mean} {is:List vQB} {cs:List (dQE×List LitI)} (hm:eQF cs m.clauses) (h:xQB m is=.ok m'):eQF (cs++oQG is) m'.clauses:=by
 induction is generalizing m cs with
 | nil=>simp only [xQB] at h;cases h;simpa [oQG] using hm
 | cons i is ih=>
  simp only [xQB] at h;split at h
  ·cases h
  ·rename_i m1 h1;have:=ih (addItem_match hm h1) h;rw [List.append_assoc] at this;cases i <;> simpa [oQG,clauseI] using this
def iQI (xs:List uQA):List Int:=(xs.filter (·.isVar)).map (·.num)
def askedM (c:iQA):List Int:=iQI c.head.terms++(c.lits.filter (·.2)).flatMap fun l=>iQI l.1.terms
def boundM (c:iQA):List Int:=(c.lits.filter (fun l=>!l.2)).flatMap fun l=>iQI l.1.terms
def lQF (c:iQA):Bool:=(askedM c).any fun n=>!decide (n∈boundM c)
end
section
abbrev iQF:=List (Nat×Nat)
inductive wQD (E:iQF):Nat→Nat→Prop
 | here (a:Nat):wQD E a a
 | step {a b c:Nat} (h:(a,b)∈E) (k:wQD E b c):wQD E a c
theorem wQD.trans {E:iQF} {a b c:Nat} (h:wQD E a b) (k:wQD E b c):wQD E a c:=by
 induction h with
 | here=>exact k
 | step h _ ih=>exact .step h (ih k)
def stepR (T:Nat→Bool) (e:Nat×Nat):Nat→Bool:=fun j=>T j || (T e.1 && decide (j=e.2))
def wQK (E:iQF) (T:Nat→Bool):Nat→Bool:=E.foldl stepR T
def pQL (E:iQF):Nat→(Nat→Bool)→(Nat→Bool)
 | 0,T=>T
 | k+1,T=>pQL E k (wQK E T)
def hangB (n:Nat) (E:iQF) (a b:Nat):Bool:=pQL E n (fun j=>decide (j=a)) b
theorem qQL (E:iQF) (T:Nat→Bool) {j:Nat} (h:T j=true):wQK E T j=true:=by
 unfold wQK;induction E generalizing T with
 | nil=>exact h
 | cons e E ih=>exact ih _ (by simp [stepR,h])
theorem roundsR_mono (E:iQF) (k:Nat) (T:Nat→Bool) {j:Nat} (h:T j=true):pQL E k T j=true:=by
 induction k generalizing T with
 | zero=>exact h
 | succ k ih=>exact ih _ (qQL E T h)
theorem roundR_edge (E:iQF) (T:Nat→Bool) {e:Nat×Nat} (he:e∈E) (h:T e.1=true):wQK E T e.2=true:=by
 unfold wQK;induction E generalizing T with
 | nil=>cases he
 | cons x E ih=>
  rcases List.mem_cons.1 he with rfl | he
  ·exact qQL E _ (by simp [stepR,h])
  ·exact ih (stepR T x) he (by simp [stepR,h])
def ClosedR (E:iQF) (T:Nat→Bool):Prop:=∀ e∈E,T e.1=true→T e.2=true
theorem roundR_closed {E:iQF} {T:Nat→Bool} (h:ClosedR E T):wQK E T=T:=by
 unfold wQK;induction E with
 | nil=>rfl
 | cons x E ih=>
  have hx:stepR T x=T:=by
   funext j
   simp only [stepR];cases hj:T j with
   | true=>rfl
   | false=>
    cases h1:T x.1 with
    | false=>rfl
    | true=>
     have h2:=h x (by simp) h1;have:j≠x.2:=by intro e;rw [e,h2] at hj;cases hj
     simp [this]
  rw [List.foldl_cons,hx];exact ih fun e he=>h e (by simp [he])
def cnt (n:Nat) (T:Nat→Bool):Nat:=((List.range n).filter T).length
theorem cnt_le (n:Nat) (T:Nat→Bool):cnt n T≤n:=by
 have:=List.length_filter_le T (List.range n);unfold cnt;simpa using this
theorem yQJ {A:Type} {l:List A} {p q:A→Bool} (h:∀ a∈l,p a=true→q a=true):(l.filter p).length≤(l.filter q).length:=by
 induction l with
 | nil=>simp
 | cons a l ih=>
  have IH:=ih fun b hb=>h b (by simp [hb]);cases hp:p a with
  | true=>rw [List.filter_cons_of_pos hp,List.filter_cons_of_pos (h a (by simp) hp)];simp;exact IH
  | false=>
   rw [List.filter_cons_of_neg (by simp [hp])];cases hq:q a with
   | true=>rw [List.filter_cons_of_pos hq];simp;omega
   | false=>rw [List.filter_cons_of_neg (by simp [hq])];exact IH
theorem filter_len_less {A:Type} {l:List A} {p q:A→Bool} (h:∀ a∈l,p a=true→q a=true) {x:A} (hx:x∈l) (h1:p x=false) (h2:q x=true):(l.filter p).length<(l.filter q).length:=by
 induction l with
 | nil=>cases hx
 | cons a l ih=>
  have M:=yQJ (l:=l) fun b hb=>h b (by simp [hb]);rcases List.mem_cons.1 hx with rfl | hx
  ·rw [List.filter_cons_of_neg (by simp [h1]),List.filter_cons_of_pos h2];simp;omega
  ·have IH:=ih (fun b hb=>h b (by simp [hb])) hx;cases hp:p a with
   | true=>rw [List.filter_cons_of_pos hp,List.filter_cons_of_pos (h a (by simp) hp)];simp;exact IH
   | false=>
    rw [List.filter_cons_of_neg (by simp [hp])];cases hq:q a with
    | true=>rw [List.filter_cons_of_pos hq];simp;omega
    | false=>rw [List.filter_cons_of_neg (by simp [hq])];exact IH
theorem cnt_mono {n:Nat} {T U:Nat→Bool} (h:∀ j,j<n→T j=true→U j=true):cnt n T≤cnt n U:=yQJ fun a ha=>h a (by simpa using ha)
theorem cnt_less {n:Nat} {T U:Nat→Bool} (h:∀ j,j<n→T j=true→U j=true) {x:Nat} (hx:x<n) (h1:T x=false) (h2:U x=true):cnt n T<cnt n U:=
 filter_len_less (fun a ha=>h a (by simpa using ha)) (by simpa using hx) h1 h2
def Below (n:Nat) (E:iQF):Prop:=∀ e∈E,e.1<n∧e.2<n
theorem roundsR_closed_of {E:iQF} {T:Nat→Bool} (h:ClosedR E T) (k:Nat):pQL E k T=T:=by
 induction k with
 | zero=>rfl
 | succ k ih=>rw [pQL,roundR_closed h];exact ih
theorem rounds_close {n:Nat} {E:iQF} (hE:Below n E) (k:Nat) (T:Nat→Bool) (hk:n<cnt n T+k):ClosedR E (pQL E k T):=by
 induction k generalizing T with
 | zero=>have:=cnt_le n T;omega
 | succ k ih=>
  by_cases hc:ClosedR E T
  ·rw [roundsR_closed_of hc];exact hc
  ·obtain ⟨e,he,h1,h2⟩:∃ e,e∈E∧T e.1=true∧T e.2=false:=by
    refine Classical.byContradiction fun hn=>hc fun e he h1=>?_;refine Classical.byContradiction fun h2=>hn ⟨e,he,h1,by simpa using h2⟩
   have:=cnt_less (n:=n) (T:=T) (U:=wQK E T) (fun j _ hj=>qQL E T hj) (hE e he).2 h2 (roundR_edge E T he h1);exact ih _ (by omega)
theorem stepR_sound {E:iQF} {a:Nat} {T:Nat→Bool} (h:∀ j,T j=true→wQD E a j) {e:Nat×Nat} (he:e∈E):∀ j,stepR T e j=true→wQD E a j:=by
 intro j hj;simp only [stepR,Bool.or_eq_true,Bool.and_eq_true,decide_eq_true_eq] at hj;rcases hj with hj | ⟨h1,rfl⟩
 ·exact h j hj
 ·exact (h _ h1).trans (.step he (.here _))
theorem roundR_sound {E F:iQF} {a:Nat} {T:Nat→Bool} (hF:∀ e∈F,e∈E) (h:∀ j,T j=true→wQD E a j):∀ j,wQK F T j=true→wQD E a j:=by
 unfold wQK;induction F generalizing T with
 | nil=>exact h
 | cons e F ih=>exact ih (fun x hx=>hF x (by simp [hx])) (stepR_sound h (hF e (by simp)))
theorem roundsR_sound {E:iQF} {a:Nat} {T:Nat→Bool} (h:∀ j,T j=true→wQD E a j) (k:Nat):∀ j,pQL E k T j=true→wQD E a j:=by
 induction k generalizing T with
 | zero=>exact h
 | succ k ih=>exact ih (roundR_sound (fun _ h=>h) h)
theorem closed_reach {E:iQF} {T:Nat→Bool} (h:ClosedR E T) {a b:Nat} (ha:T a=true) (r:wQD E a b):T b=true:=by
 induction r with
 | here=>exact ha
 | step he _ ih=>exact ih (h _ he ha)
theorem dQH {n:Nat} {E:iQF} (hE:Below n E) {a b:Nat} (ha:a<n):hangB n E a b=true↔wQD E a b:=by
 constructor
 ·exact roundsR_sound (a:=a) (fun j hj=>by simp at hj;subst hj;exact .here _) n b
 ·intro r;have h1:0<cnt n (fun j=>decide (j=a)):=by
   have:=cnt_less (n:=n) (T:=fun _=>false) (U:=fun j=>decide (j=a)) (fun j _ h=>by cases h) ha rfl (by simp);omega
  have hc:=rounds_close hE n (fun j=>decide (j=a)) (by omega);exact closed_reach hc (roundsR_mono E n _ (by simp)) r
theorem sets_reach {n:Nat} {E:iQF} (hE:Below n E) {S:Nat→Nat→Bool} (hs:∀ i j,i<n→S i j=true→wQD E i j) (hi:∀ i,i<n→S i i=true)
  (hc:∀ e∈E,∀ j,S e.2 j=true→S e.1 j=true) {a b:Nat} (ha:a<n):S a b=hangB n E a b:=by
 rw [Bool.eq_iff_iff,dQH hE ha];refine ⟨hs a b ha,fun r=>?_⟩;induction r with
 | here=>exact hi _ ha
 | step he _ ih=>exact hc _ he _ (ih (hE _ he).2)
def vQF (n:Nat) (E:iQF) (a:Nat):Nat:=cnt n (hangB n E a)
theorem reachCnt_edge {n:Nat} {E:iQF} (hE:Below n E) {a b:Nat} (he:(a,b)∈E):vQF n E b≤vQF n E a:=by
 refine cnt_mono fun j _ hj=>?_;rw [dQH hE (hE _ he).2] at hj;rw [dQH hE (hE _ he).1];exact .step he hj
theorem reachCnt_not {n:Nat} {E:iQF} (hE:Below n E) {a b:Nat} (he:(a,b)∈E) (hn:hangB n E b a=false):vQF n E b+1≤vQF n E a:=by
 refine cnt_less (fun j _ hj=>?_) (hE _ he).1 hn ?_
 ·rw [dQH hE (hE _ he).2] at hj;rw [dQH hE (hE _ he).1];exact .step he hj
 ·rw [dQH hE (hE _ he).1];exact .here _
theorem reachCnt_pos {n:Nat} {E:iQF} (hE:Below n E) {a:Nat} (ha:a<n):1≤vQF n E a:=by
 have:=cnt_less (n:=n) (T:=fun _=>false) (U:=hangB n E a) (fun j _ h=>by cases h) ha rfl ((dQH hE ha).2 (.here _));unfold vQF;omega
def edgesC (c:iQA):iQF:=c.lits.map fun l=>(c.head.rel,l.1.rel)
def sQC (cs:List iQA):iQF:=cs.flatMap edgesC
def hQG (n:Nat) (E:iQF) (c:iQA):Bool:=c.lits.any fun l=>l.2 && hangB n E l.1.rel c.head.rel
def uQE (p:iQA→Bool):List iQA→Option Nat
 | []=>none
 | c :: cs=>if p c then some c.line else uQE p cs
def laterS (m:Mean):Except Flt Mean:=
 match uQE lQF m.clauses with
 | some l=>.error (12,l)
 | none=>match uQE (hQG m.rels.length (sQC m.clauses)) m.clauses with
  | some l=>.error (13,l)
  | none=>.ok m
def RelsOk (n:Nat) (c:iQA):Prop:=c.head.rel<n∧∀ l∈c.lits,l.1.rel<n
theorem wQI {n:Nat} {cs:List iQA} (h:∀ c∈cs,RelsOk n c):Below n (sQC cs):=by
 intro e he;simp only [sQC,edgesC,List.mem_flatMap,List.mem_map] at he;obtain ⟨c,hc,l,hl,rfl⟩:=he;exact ⟨(h c hc).1,(h c hc).2 l hl⟩
theorem gQE {A:Type} {l:List (ByteArray×A)} {s:ByteArray} {p:Nat} (h:yQB l s=some p):p<l.length:=by
 obtain ⟨a,ha⟩:=oQJ h;rcases Nat.lt_or_ge p l.length with h | h
 ·exact h
 ·rw [List.getElem?_eq_none h] at ha;cases ha
theorem atomS_rel {m:Mean} {sc sc':aQB} {a:dQE} {x:yQA} (h:wQL m sc a=.ok (x,sc')):x.rel<m.rels.length:=by
 unfold wQL at h;split at h
 ·cases h
 ·rename_i r hr;split at h
  ·cases h
  ·split at h
   ·cases h
   ·cases h;exact gQE hr
theorem litsS_rel {m:Mean} {sc sc':aQB} {k:Nat} {ls:List LitI} {xs:List (yQA×Bool)} (h:eQG m sc k ls=.ok (xs,sc')):∀ l∈xs,l.1.rel<m.rels.length:=by
 induction ls generalizing sc sc' k xs with
 | nil=>simp only [eQG] at h;cases h;intro l hl;cases hl
 | cons l ls ih=>
  simp only [eQG] at h;split at h
  ·cases h
  ·split at h
   ·cases h
   ·rename_i x sc1 h1;split at h
    ·cases h
    ·rename_i xs' sc2 h2;cases h;intro l hl;rcases List.mem_cons.1 hl with rfl | hl
     ·exact atomS_rel h1
     ·exact ih h2 l hl
structure mQC (m:Mean):Prop where
 doms:m.doms.length≤4
 rels:m.rels.length≤6
 clauses:m.clauses.length≤52
 onceD:Once m.doms
 onceR:Once m.rels
 cols:∀ r∈m.rels,r.2.length≤3∧∀ d∈r.2,d<m.doms.length
 inR:∀ c∈m.clauses,RelsOk m.rels.length c
 lits:∀ c∈m.clauses,c.lits.length≤4
 sizes:∀ d∈m.doms,1≤d.2∧d.2≤8
theorem mQC.empty:mQC ⟨[],[],[]⟩:=⟨by simp,by simp,by simp,by intro i j a b h;simp at h,by intro i j a b h;simp at h,by simp,by simp,by simp,by simp⟩
theorem colsS_ok {m:Mean} {k:Nat} {cs:List Tn} {ds:List Nat} (hk:k≤3) (h:colsS m k cs=.ok ds):ds.length+k≤3∧ds.length=cs.length∧∀ d∈ds,d<m.doms.length:=by
 induction cs generalizing k ds with
 | nil=>simp only [colsS] at h;cases h;simp;omega
 | cons c cs ih=>
  simp only [colsS] at h;split at h
  ·cases h
  ·split at h
   ·cases h
   ·rename_i d hd;split at h
    ·cases h
    ·rename_i ds' h2;cases h;obtain ⟨h3,h4,h5⟩:=ih (by omega) h2;refine ⟨by simp;omega,by simp;omega,fun d hd'=>?_⟩;rcases List.mem_cons.1 hd' with rfl | hd'
     ·exact gQE hd
     ·exact h5 d hd'
theorem litsS_len {m:Mean} {sc sc':aQB} {k:Nat} {ls:List LitI} {xs:List (yQA×Bool)} (hk:k≤4) (h:eQG m sc k ls=.ok (xs,sc')):xs.length+k≤4:=by
 induction ls generalizing sc sc' k xs with
 | nil=>simp only [eQG] at h;cases h;simp;omega
 | cons l ls ih=>
  simp only [eQG] at h;split at h
  ·cases h
  ·split at h
   ·cases h
   ·split at h
    ·cases h
    ·rename_i h2;cases h;have:=ih (by omega) h2;simp;omega
theorem addItem_ok {m m':Mean} {i:vQB} (hm:mQC m) (h:nQD m i=.ok m'):mQC m':=by
 cases i with
 | dom n z=>
  simp only [nQD,addDom] at h;split at h
  ·cases h
  ·rename_i h4;split at h
   ·cases h
   ·rename_i ht;split at h
    ·cases h
    ·rename_i hz;cases h;have hno:yQB m.doms (txt n.g)=none:=by
      simp [Mean.taken,Mean.dom] at ht;exact ht.1
     exact ⟨by have:=hm.doms;simp;omega,hm.rels,hm.clauses,hm.onceD.push hno _,hm.onceR,fun r hr=>⟨(hm.cols r hr).1,fun d hd=>by have:=(hm.cols r hr).2 d hd;simp;omega⟩,hm.inR,hm.lits,fun d hd=>by
      rcases List.mem_append.1 hd with hd | hd
      ·exact hm.sizes d hd
      ·simp at hd;subst hd;simp;omega⟩
 | rel n z=>
  simp only [nQD,addRel] at h;split at h
  ·cases h
  ·rename_i h6;split at h
   ·cases h
   ·rename_i ht;split at h
    ·cases h
    ·rename_i ds hds;cases h;have hno:yQB m.rels (txt n.g)=none:=by
      simp [Mean.taken,Mean.rel] at ht;exact ht.2
     obtain ⟨c1,c2,c3⟩:=colsS_ok (by omega) hds;exact ⟨hm.doms,by have:=hm.rels;simp;omega,hm.clauses,hm.onceD,hm.onceR.push hno _,fun r hr=>by
      rcases List.mem_append.1 hr with hr | hr
      ·exact hm.cols r hr
      ·simp at hr;subst hr;exact ⟨by omega,c3⟩,fun c hc=>⟨by have:=(hm.inR c hc).1;simp;omega,fun l hl=>by have:=(hm.inR c hc).2 l hl;simp;omega⟩,hm.lits,hm.sizes⟩
 | clause a ls=>
  simp only [nQD,addClause] at h;split at h
  ·cases h
  ·rename_i h52;split at h
   ·cases h
   ·rename_i x sc h1;split at h
    ·cases h
    ·rename_i xs sc2 h2;cases h;exact ⟨hm.doms,hm.rels,by have:=hm.clauses;simp;omega,hm.onceD,hm.onceR,hm.cols,fun c hc=>by
      rcases List.mem_append.1 hc with hc | hc
      ·exact hm.inR c hc
      ·simp at hc;subst hc;exact ⟨atomS_rel (m:=m) h1,litsS_rel (m:=m) h2⟩,fun c hc=>by
      rcases List.mem_append.1 hc with hc | hc
      ·exact hm.lits c hc
      ·simp at hc;subst hc;have:=litsS_len (by omega) h2;simp;omega,hm.sizes⟩
theorem senseS_ok {m m':Mean} {is:List vQB} (hm:mQC m) (h:xQB m is=.ok m'):mQC m':=by
 induction is generalizing m with
 | nil=>simp only [xQB] at h;cases h;exact hm
 | cons i is ih=>
  simp only [xQB] at h;split at h
  ·cases h
  ·rename_i m1 h1;exact ih (addItem_ok hm h1) h
end
section
def decG (n:Int):ByteArray:=if 10≤n then ⟨#[(48+n / 10).toNat.toUInt8,(48+n % 10).toNat.toUInt8]⟩ else ⟨#[(48+n % 10).toNat.toUInt8]⟩
end
section
def LineIn (ts:List Tn) (l:Nat):Prop:=∃ t∈ts,t.line=l
theorem LineIn.of {ts us:List Tn} {l:Nat} (h:LineIn us l) (g:GoesG ts us):LineIn ts l:=by
 obtain ⟨t,ht,e⟩:=h;exact ⟨t,g.suf.subset ht,e⟩
theorem take_line {p:Sg→Bool} {ts:List Tn} {l:Nat} (e:bQC ts) (h:cQC p ts=.error l):LineIn ts l:=by
 obtain ⟨t,us,rfl⟩:=e.cons;simp only [cQC] at h;split at h
 ·cases h
 ·cases h;exact ⟨t,by simp,rfl⟩
theorem rest_line {p:Sg→Bool} (hp:iQG p) {k:Nat} {ts:List Tn} {l:Nat} (hk:ts.length≤k) (e:bQC ts) (h:bQG p k ts=.error l):LineIn ts l:=by
 induction k generalizing ts with
 | zero=>
  obtain ⟨t,us,rfl⟩:=e.cons;simp at hk
 | succ k ih=>
  simp only [bQG] at h;split at h
  ·rename_i hc;have g1:=qQB mQD e hc;split at h
   ·rename_i hl;cases h;exact (take_line g1.2 hl).of g1
   ·rename_i t us' ht;have g2:=(oQA hp g1.2 ht).1;split at h
    ·rename_i hl;cases h;exact (ih (by have:=g1.1;have:=g2.1;omega) g2.2 hl).of (g1.trans g2)
    ·cases h
  ·split at h
   ·rename_i hl;cases h;exact take_line e hl
   ·cases h
theorem rest_are {p:Sg→Bool} (hp:iQG p) {k:Nat} {ts us r:List Tn} (hk:ts.length≤k) (e:bQC ts) (h:bQG p k ts=.ok (r,us)):∀ t∈r,p t.g=true∧t∈ts:=by
 induction k generalizing ts us r with
 | zero=>
  obtain ⟨t,us,rfl⟩:=e.cons;simp at hk
 | succ k ih=>
  simp only [bQG] at h;split at h
  ·rename_i hc;have g1:=qQB mQD e hc;split at h
   ·cases h
   ·rename_i t us' ht;obtain ⟨g2,e2,p2⟩:=oQA hp g1.2 ht;split at h
    ·cases h
    ·rename_i r' vs hr;cases h;intro x hx;rcases List.mem_cons.1 hx with rfl | hx
     ·exact ⟨p2,g1.suf.subset (by rw [e2];simp)⟩
     ·obtain ⟨a,b⟩:=ih (by have:=g1.1;have:=g2.1;omega) g2.2 hr x hx;exact ⟨a,(g1.trans g2).suf.subset b⟩
  ·split at h
   ·cases h
   ·cases h;intro x hx;cases hx
theorem list_are {p:Sg→Bool} (hp:iQG p) {ts us r:List Tn} (e:bQC ts) (h:aQH p ts=.ok (r,us)):(∀ t∈r,p t.g=true∧t∈ts)∧r≠[]:=by
 unfold aQH at h;split at h
 ·cases h
 ·rename_i t1 us1 h1;have g1:=(oQA lp_noFin e h1).1;split at h
  ·cases h
  ·rename_i t2 us2 h2;obtain ⟨g2,e2,p2⟩:=oQA hp g1.2 h2;split at h
   ·cases h
   ·rename_i r3 us3 h3;cases h;refine ⟨fun x hx=>?_,by simp⟩;rcases List.mem_cons.1 hx with rfl | hx
    ·exact ⟨p2,g1.suf.subset (by rw [e2];simp)⟩
    ·obtain ⟨a,b⟩:=rest_are hp (Nat.le_refl _) g2.2 h3 x hx;exact ⟨a,(g1.trans g2).suf.subset b⟩
theorem atom_are {ts us:List Tn} {a:dQE} (e:bQC ts) (h:gQI ts=.ok (a,us)):(∀ t∈a.terms,zQA t.g=true∧t∈ts)∧a.terms≠[]∧fQC a.name.g=true∧a.name∈ts:=by
 unfold gQI at h;split at h
 ·cases h
 ·rename_i t1 us1 h1;obtain ⟨g1,e1,p1⟩:=oQA lQC e h1;split at h
  ·cases h
  ·rename_i r3 us3 h3;cases h;obtain ⟨a1,a2⟩:=list_are lQK g1.2 h3;exact ⟨fun t ht=>⟨(a1 t ht).1,g1.suf.subset (a1 t ht).2⟩,a2,p1,by rw [e1];simp⟩
end
section
open Go.RowKit
theorem str_eq {a b:ByteArray}:(a.toList == b.toList)=true↔a=b:=by
 rw [ByteArray.toList_eq,ByteArray.toList_eq,beq_iff_eq];constructor
 ·intro h;obtain ⟨⟨x⟩⟩:=a;obtain ⟨⟨y⟩⟩:=b;have h':x=y:=h;subst h';rfl
 ·intro h;rw [h]
theorem yQH (l:List UInt8):(⟨⟨l⟩⟩:ByteArray).toList=l:=by rw [ByteArray.toList_eq]
theorem str_lit {a:ByteArray} {l:List UInt8}:(a.toList == l)=true↔a=⟨⟨l⟩⟩:=by
 have h1:=str_eq (a:=a) (b:=⟨⟨l⟩⟩);have h2:=yQH l;generalize ByteArray.toList ⟨⟨l⟩⟩=x at h1 h2;subst h2;exact h1
def eQA:Sg→ByteArray
 | .name _=>strName
 | .var _=>strVar
 | .int _=>strInt
 | .fin=>⟨#[101,110,100]⟩
 | g=>txt g
def toTk (t:Tn):Tk:=⟨eQA t.g,txt t.g,t.line⟩
def wordG (s:ByteArray):Sg:=if (s.toList == [100,111,109])=true then .dom else if (s.toList == [114,101,108])=true then .rel else .name s
def markG (c:Int):Sg:=if c=40 then .lp else if c=41 then .rp else if c=44 then .comma else if c=59 then .semi else if c=46 then .dot else .bang
def cutG (s:ByteArray):Option (Sg×Nat):=
 if bQH (ltr s 0) then (if hQB aQD s≤6 then some (wordG (s.extract 0 (hQB aQD s)),hQB aQD s) else none)
 else if cQH (ltr s 0) then some (.var (s.extract 0 (1+hQB hQC (s.extract 1 (min 2 s.size)))),1+hQB hQC (s.extract 1 (min 2 s.size)))
 else if hQC (ltr s 0) then (if hQB hQC s≤2 then some (.int (s.extract 0 (hQB hQC s)),hQB hQC s) else none)
 else if isMark (ltr s 0) then some (markG (ltr s 0),1)
 else if bQF s then some (.arrow,2) else none
theorem ltr_pre {s:ByteArray} {n:Nat} {i:Nat} (hn:n≤s.size) (hi:i<n):ltr (s.extract 0 n) i=ltr s i:=by
 have h1:i<(s.extract 0 n).size:=by rw [ByteArray.size_extract];omega
 have h2:i<s.size:=by omega
 unfold ltr;rw [dif_pos h1,dif_pos h2,ByteArray.getElem_extract];simp
theorem nQK {s:ByteArray} (h0:0<s.size) {b:UInt8} (h:ltr s 0=b.toNat):s.extract 0 1=⟨#[b]⟩:=by
 have e:(s.extract 0 1).size=1:=by rw [ByteArray.size_extract];omega
 apply ByteArray.ext_getElem
 ·rw [e];rfl
 ·intro i h1 h2;have hi:i=0:=by omega
  subst hi;rw [ByteArray.getElem_extract];have h3:=ltr_at h0;rw [h] at h3;have h4:(s[0]).toNat=b.toNat:=by omega
  have h5:s[0]=b:=UInt8.toNat_inj.1 h4;show s[0+0]=b;exact h5
theorem mark_txt {s:ByteArray} (h0:0<s.size) (h:isMark (ltr s 0)=true):txt (markG (ltr s 0))=s.extract 0 1∧eQA (markG (ltr s 0))=s.extract 0 1:=by
 simp only [isMark,Bool.or_eq_true,beq_iff_eq] at h;rcases h with ((((h | h) | h) | h) | h) | h
 ·rw [nQK h0 (b:=40) h,h];exact ⟨rfl,rfl⟩
 ·rw [nQK h0 (b:=41) h,h];exact ⟨rfl,rfl⟩
 ·rw [nQK h0 (b:=44) h,h];exact ⟨rfl,rfl⟩
 ·rw [nQK h0 (b:=59) h,h];exact ⟨rfl,rfl⟩
 ·rw [nQK h0 (b:=46) h,h];exact ⟨rfl,rfl⟩
 ·rw [nQK h0 (b:=33) h,h];exact ⟨rfl,rfl⟩
theorem word_txt (s:ByteArray):txt (wordG s)=s∧eQA (wordG s)=uQF s:=by
 unfold wordG uQF;by_cases h1:(s.toList == [100,111,109])=true
 ·rw [if_pos h1,if_pos (.inl h1),str_lit.1 h1];exact ⟨rfl,rfl⟩
 ·rw [if_neg h1];by_cases h2:(s.toList == [114,101,108])=true
  ·rw [if_pos h2,if_pos (.inr h2),str_lit.1 h2];exact ⟨rfl,rfl⟩
  ·rw [if_neg h2,if_neg (fun h=>h.elim h1 h2)];exact ⟨rfl,rfl⟩
theorem cutG_cut {s:ByteArray} (h0:0<s.size):(cutG s).map (fun p=>(eQA p.1,p.2))=cutOf s∧∀ g n,cutG s=some (g,n)→txt g=s.extract 0 n:=by
 unfold cutG cutOf;split
 ·split
  ·refine ⟨by simp only [Option.map_some];rw [(word_txt _).2],fun g n h=>?_⟩;cases h;exact (word_txt _).1
  ·exact ⟨rfl,fun g n h=>by cases h⟩
 ·split
  ·exact ⟨rfl,fun g n h=>by cases h;rfl⟩
  ·split
   ·split
    ·exact ⟨rfl,fun g n h=>by cases h;rfl⟩
    ·exact ⟨rfl,fun g n h=>by cases h⟩
   ·split
    ·rename_i hm;refine ⟨by simp only [Option.map_some];rw [(mark_txt h0 hm).2],fun g n h=>?_⟩;cases h;exact (mark_txt h0 hm).1
    ·split
     ·rename_i ha;refine ⟨rfl,fun g n h=>?_⟩;cases h;unfold bQF at ha;simp only [Bool.and_eq_true] at ha;exact (str_lit.1 ha.2).symm
     ·exact ⟨rfl,fun g n h=>by cases h⟩
def WfG:Sg→Prop
 | .name s=>bQH (ltr s 0)=true∧1≤s.size∧s.size≤6
 | .var s=>cQH (ltr s 0)=true∧1≤s.size∧s.size≤2
 | .int s=>(∀ i,i<s.size→hQC (ltr s i)=true)∧1≤s.size∧s.size≤2
 | .fin=>False
 | _=>True
theorem spanFrom_all {p:Int→Bool} {s:ByteArray} {i k j:Nat} (h1:i≤j) (h2:j<zQB p s i k):p (ltr s j)=true:=by
 induction k generalizing i with
 | zero=>simp [zQB] at h2;omega
 | succ k ih=>
  simp only [zQB] at h2;split at h2
  ·rename_i hp;rcases Nat.eq_or_lt_of_le h1 with rfl | h1
   ·exact hp
   ·exact ih h1 h2
  ·omega
theorem cutG_wf {s:ByteArray} (h0:0<s.size) {g:Sg} {n:Nat} (h:cutG s=some (g,n)):WfG g:=by
 unfold cutG at h;split at h
 ·rename_i hl;split at h
  ·rename_i h6;cases h;have hp:=qQG (p:=aQD) h0 (by unfold aQD;rw [hl];rfl);have hle:=xQE aQD s;unfold wordG;split
   ·trivial
   ·split
    ·trivial
    ·refine ⟨by rw [ltr_pre hle (by omega)];exact hl,?_,?_⟩ <;> (rw [ByteArray.size_extract];omega)
  ·cases h
 ·split at h
  ·rename_i hc;cases h;have hle:=xQE hQC (s.extract 1 (min 2 s.size));rw [ByteArray.size_extract] at hle;refine ⟨by rw [ltr_pre (by omega) (by omega)];exact hc,?_,?_⟩ <;> (rw [ByteArray.size_extract];omega)
  ·split at h
   ·rename_i hd;split at h
    ·rename_i h2;cases h;have hp:=qQG (p:=hQC) h0 hd;have hle:=xQE hQC s;refine ⟨fun i hi=>?_,?_,?_⟩
     ·rw [ByteArray.size_extract] at hi;rw [ltr_pre hle (by omega)];exact spanFrom_all (i:=0) (k:=s.size) (by omega) (show i<hQB hQC s by omega)
     ·rw [ByteArray.size_extract];omega
     ·rw [ByteArray.size_extract];omega
    ·cases h
   ·split at h
    ·cases h;unfold markG;repeat' split
     all_goals trivial
    ·split at h
     ·cases h;trivial
     ·cases h
def hQH:Nat→ByteArray→Nat→(List Tn×Nat) ⊕ Nat
 | 0,_,l=>.inl ([],l)
 | k+1,s,l=>
  if s.size=0 then .inl ([],l)
  else if ltr s 0=10 then hQH k (s.extract 1 s.size) (l+1)
  else if ltr s 0=32∨ltr s 0=9 then hQH k (s.extract 1 s.size) l
  else if ltr s 0=37 then hQH k (s.extract (hQB bQJ s) s.size) l
  else match cutG s with
   | none=>.inr l
   | some (g,n)=>match hQH k (s.extract n s.size) l with
    | .inl (ts,m)=>.inl (⟨g,l⟩ :: ts,m)
    | .inr m=>.inr m
def tokTks:(List Tn×Nat) ⊕ Nat→(List Tk×Nat) ⊕ Nat
 | .inl (ts,m)=>.inl (ts.map toTk,m)
 | .inr m=>.inr m
theorem scanT_scan (k:Nat) (s:ByteArray) (l:Nat):jQG k s l=tokTks (hQH k s l):=by
 induction k generalizing s l with
 | zero=>rfl
 | succ k ih=>
  simp only [jQG,hQH];split
  ·rfl
  ·rename_i hz;have h0:0<s.size:=(by omega);split
   ·exact ih ..
   ·split
    ·exact ih ..
    ·split
     ·exact ih ..
     ·obtain ⟨h1,h2⟩:=cutG_cut h0;cases hc:cutG s with
      | none=>rw [hc] at h1;rw [←h1];rfl
      | some p=>
       obtain ⟨g,n⟩:=p;rw [hc] at h1;rw [←h1];simp only [Option.map_some];rw [ih];cases hQH k (s.extract n s.size) l with
       | inl q=>
        simp only [tokTks,List.map_cons,toTk];rw [h2 g n hc]
       | inr q=>rfl
theorem scanT_wf {k:Nat} {s:ByteArray} {l:Nat} {ts:List Tn} {m:Nat} (h:hQH k s l=.inl (ts,m)):∀ t∈ts,WfG t.g:=by
 induction k generalizing s l ts m with
 | zero=>cases h;intro t ht;cases ht
 | succ k ih=>
  simp only [hQH] at h;split at h
  ·cases h;intro t ht;cases ht
  ·rename_i hz;split at h
   ·exact ih h
   ·split at h
    ·exact ih h
    ·split at h
     ·exact ih h
     ·split at h
      ·cases h
      ·rename_i g n hc;split at h
       ·rename_i us m' hr;cases h;intro t ht;rcases List.mem_cons.1 ht with rfl | ht
        ·exact cutG_wf (by omega) hc
        ·exact ih hr t ht
       ·cases h
def oQB (ts:List Tn) (m:Nat):List Tn:=ts++[⟨.fin,m⟩]
theorem scanT_ended {k:Nat} {s:ByteArray} {l:Nat} {ts:List Tn} {m:Nat} (h:hQH k s l=.inl (ts,m)):bQC (oQB ts m):=by
 refine ⟨ts,m,rfl,fun t ht=>?_⟩;have:=scanT_wf h t ht;cases hg:t.g <;> rw [hg] at this <;> first | rfl | exact this.elim
end
section
open Go.RowKit
theorem ltrG_ltr (s:ByteArray) (i:Nat):ltrG s i=ltr s i:=rfl
theorem fQL {s:ByteArray} (h:∀ i,i<s.size→hQC (ltr s i)=true) {k:Nat} (hk:k≤s.size) (h2:s.size≤2):0≤valTo s k∧valTo s k<100:=by
 have hd:∀ i,i<s.size→48≤ltr s i∧ltr s i≤57:=fun i hi=>by
  have:=h i hi;simp only [hQC,Bool.and_eq_true,decide_eq_true_eq] at this;exact this
 match k,hk with
 | 0,_=>simp [valTo]
 | 1,hk=>have:=hd 0 (by omega);simp only [valTo,ltrG_ltr];omega
 | 2,hk=>have:=hd 0 (by omega);have:=hd 1 (by omega);simp only [valTo,ltrG_ltr];omega
 | k+3,hk=>omega
end
section
open Go.RowKit
def pQH:Mean:=⟨[],[],[]⟩
def pQE (s:ByteArray):Except Flt (List Tn×Mean):=
 if 1200<s.size then .error (4,0)
 else match hQH s.size s 1 with
  | .inr l=>.error (5,l)
  | .inl (ts,m)=>match zQC (oQB ts m).length (oQB ts m) with
   | .error l=>.error (5,l)
   | .ok is=>match xQB pQH is with
    | .error f=>.error f
    | .ok me=>match laterS me with
     | .error f=>.error f
     | .ok _=>.ok (oQB ts m,me)
theorem scanT_len {k:Nat} {s:ByteArray} {l:Nat} {ts:List Tn} {m:Nat} (h:hQH k s l=.inl (ts,m)):ts.length≤s.size∧m≤l+s.size∧(∀ t∈ts,t.line≤l+s.size)∧∀ t∈ts,(txt t.g).size≤s.size:=by
 induction k generalizing s l ts m with
 | zero=>cases h;simp
 | succ k ih=>
  simp only [hQH] at h;split at h
  ·cases h;simp
  ·rename_i hz;have h0:0<s.size:=(by omega);have goes:∀ (n l':Nat),1≤n→l'≤l+1→(n=0∨l'≤l+n)→hQH k (s.extract n s.size) l' = .inl (ts,m)→ts.length≤s.size∧m≤l+s.size∧(∀ t∈ts,t.line≤l+s.size)∧∀ t∈ts,(txt t.g).size≤s.size:=by
    intro n l' hn hl' hln hr;obtain ⟨a1,a2,a3,a4⟩:=ih hr;rw [ByteArray.size_extract] at a1 a2 a3 a4;rcases Nat.lt_or_ge s.size n with hsn | hsn
    ·have e:min s.size s.size - n=0:=(by omega);rw [e] at a1 a2 a3 a4;exact ⟨by omega,by omega,fun t ht=>by have:=a3 t ht;omega,fun t ht=>by have:=a4 t ht;omega⟩
    ·exact ⟨by omega,by omega,fun t ht=>by have:=a3 t ht;omega,fun t ht=>by have:=a4 t ht;omega⟩
   split at h
   ·exact goes 1 (l+1) (by omega) (by omega) (by omega) h
   ·split at h
    ·exact goes 1 l (by omega) (by omega) (by omega) h
    ·split at h
     ·rename_i h37;have hp:1≤hQB bQJ s:=qQG h0 (by rw [h37];rfl);exact goes _ l hp (by omega) (by omega) h
     ·obtain ⟨c1,c2⟩:=cutG_cut h0;split at h
      ·cases h
      ·rename_i g n hc;rw [hc] at c1;obtain ⟨r1,r2⟩:=cutOf_range h0 c1.symm;split at h
       ·rename_i us m' hr;cases h;obtain ⟨a1,a2,a3,a4⟩:=ih hr;rw [ByteArray.size_extract] at a1 a2 a3 a4;refine ⟨by simp;omega,by omega,fun t ht=>?_,fun t ht=>?_⟩
        ·rcases List.mem_cons.1 ht with rfl | ht
         ·simp
         ·have:=a3 t ht;omega
        ·rcases List.mem_cons.1 ht with rfl | ht
         ·show (txt g).size≤_;rw [c2 g n hc,ByteArray.size_extract];omega
         ·have:=a4 t ht;omega
       ·cases h
end
section
def AtomIn (ts:List Tn) (a:dQE):Prop:=fQC a.name.g=true∧a.name∈ts∧(∀ t∈a.terms,zQA t.g=true∧t∈ts)∧a.terms.length≤ts.length
def ItemIn (ts:List Tn):vQB→Prop
 | .dom n z=>(fQC n.g=true∧n∈ts)∧isIntG z.g=true∧z∈ts
 | .rel n cs=>(fQC n.g=true∧n∈ts)∧(∀ c∈cs,fQC c.g=true∧c∈ts)∧cs.length≤ts.length
 | .clause a ls=>AtomIn ts a∧(∀ l∈ls,AtomIn ts l.atom)∧ls.length≤ts.length
theorem AtomIn.mono {ts us:List Tn} {a:dQE} (h:AtomIn us a) (g:us <:+ ts):AtomIn ts a:=by
 have hs:=g.subset;exact ⟨h.1,hs h.2.1,fun t ht=>⟨(h.2.2.1 t ht).1,hs (h.2.2.1 t ht).2⟩,Nat.le_trans h.2.2.2 g.length_le⟩
theorem ItemIn.mono {ts us:List Tn} {i:vQB} (h:ItemIn us i) (g:us <:+ ts):ItemIn ts i:=by
 have hs:=g.subset;cases i with
 | dom n z=>exact ⟨⟨h.1.1,hs h.1.2⟩,h.2.1,hs h.2.2⟩
 | rel n cs=>exact ⟨⟨h.1.1,hs h.1.2⟩,fun c hc=>⟨(h.2.1 c hc).1,hs (h.2.1 c hc).2⟩,Nat.le_trans h.2.2 g.length_le⟩
 | clause a ls=>exact ⟨h.1.mono g,fun l hl=>(h.2.1 l hl).mono g,Nat.le_trans h.2.2 g.length_le⟩
theorem rest_len {p:Sg→Bool} (hp:iQG p) {k:Nat} {ts us r:List Tn} (hk:ts.length≤k) (e:bQC ts) (h:bQG p k ts=.ok (r,us)):r.length+us.length<ts.length:=by
 induction k generalizing ts us r with
 | zero=>
  obtain ⟨t,us,rfl⟩:=e.cons;simp at hk
 | succ k ih=>
  simp only [bQG] at h;split at h
  ·rename_i hc;have g1:=qQB mQD e hc;split at h
   ·cases h
   ·rename_i t us' ht;have g2:=(oQA hp g1.2 ht).1;split at h
    ·cases h
    ·rename_i r' vs hr;cases h;have:=ih (by have:=g1.1;have:=g2.1;omega) g2.2 hr;have:=g1.1;have:=g2.1;rw [List.length_cons];omega
  ·split at h
   ·cases h
   ·rename_i t us' ht;cases h;have:=(oQA rp_noFin e ht).1.1;simpa using this
theorem list_len {p:Sg→Bool} (hp:iQG p) {ts us r:List Tn} (e:bQC ts) (h:aQH p ts=.ok (r,us)):r.length+us.length<ts.length:=by
 unfold aQH at h;split at h
 ·cases h
 ·rename_i t1 us1 h1;have g1:=(oQA lp_noFin e h1).1;split at h
  ·cases h
  ·rename_i t2 us2 h2;have g2:=(oQA hp g1.2 h2).1;split at h
   ·cases h
   ·rename_i r3 us3 h3;cases h;have:=rest_len hp (Nat.le_refl _) g2.2 h3;have:=g1.1;have:=g2.1;rw [List.length_cons];omega
theorem atom_in {ts us:List Tn} {a:dQE} (e:bQC ts) (h:gQI ts=.ok (a,us)):AtomIn ts a:=by
 obtain ⟨h1,_,h3,h4⟩:=atom_are e h;refine ⟨h3,h4,h1,?_⟩;unfold gQI at h;split at h
 ·cases h
 ·rename_i t1 us1 hh;have g1:=(oQA lQC e hh).1;split at h
  ·cases h
  ·rename_i r3 us3 h3;cases h;have:=list_len lQK g1.2 h3;have:=g1.1;show r3.length≤_;omega
theorem lit_in {ts us:List Tn} {l:LitI} (e:bQC ts) (h:litG ts=.ok (l,us)):AtomIn ts l.atom:=by
 unfold litG at h;split at h
 ·rename_i hc;have g1:=qQB bang_noFin e hc;split at h
  ·cases h
  ·rename_i r3 us3 h3;cases h;exact (atom_in g1.2 h3).mono g1.3
 ·split at h
  ·cases h
  ·rename_i r3 us3 h3;cases h;exact atom_in e h3
theorem lits_in {k:Nat} {ts us:List Tn} {r:List LitI} (hk:ts.length≤k) (e:bQC ts) (h:tQK k ts=.ok (r,us)):(∀ l∈r,AtomIn ts l.atom)∧r.length+us.length<ts.length:=by
 induction k generalizing ts us r with
 | zero=>
  obtain ⟨t,us,rfl⟩:=e.cons;simp at hk
 | succ k ih=>
  simp only [tQK] at h;split at h
  ·rename_i hc;have g1:=qQB mQD e hc;split at h
   ·cases h
   ·rename_i t us' ht;have g2:=zQH g1.2 ht;split at h
    ·cases h
    ·rename_i r' vs hr;cases h;obtain ⟨h1,h2⟩:=ih (by have:=g1.1;have:=g2.1;omega) g2.2 hr;refine ⟨fun l hl=>?_,?_⟩
     ·rcases List.mem_cons.1 hl with rfl | hl
      ·exact (lit_in g1.2 ht).mono g1.3
      ·exact (h1 l hl).mono (g2.3.trans g1.3)
     ·have:=g1.1;have:=g2.1;rw [List.length_cons];omega
  ·split at h
   ·cases h
   ·rename_i t us' ht;cases h;have:=(oQA dot_noFin e ht).1.1;exact ⟨fun l hl=>(by cases hl),by simpa using this⟩
theorem body_in {ts us:List Tn} {r:List LitI} (e:bQC ts) (h:eQJ ts=.ok (r,us)):(∀ l∈r,AtomIn ts l.atom)∧r.length+us.length<ts.length:=by
 unfold eQJ at h;split at h
 ·rename_i hc;have g1:=qQB xQL e hc;split at h
  ·cases h
  ·rename_i t us' ht;have g2:=zQH g1.2 ht;split at h
   ·cases h
   ·rename_i r' vs hr;cases h;obtain ⟨h1,h2⟩:=lits_in (Nat.le_refl _) g2.2 hr;refine ⟨fun l hl=>?_,?_⟩
    ·rcases List.mem_cons.1 hl with rfl | hl
     ·exact (lit_in g1.2 ht).mono g1.3
     ·exact (h1 l hl).mono (g2.3.trans g1.3)
    ·have:=g1.1;have:=g2.1;rw [List.length_cons];omega
 ·split at h
  ·cases h
  ·rename_i t us' ht;cases h;have:=(oQA dot_noFin e ht).1.1;exact ⟨fun l hl=>(by cases hl),by simpa using this⟩
theorem item_in {ts us:List Tn} {i:vQB} (e:bQC ts) (h:sQI ts=.ok (i,us)):ItemIn ts i:=by
 unfold sQI at h;split at h
 ·rename_i hc;have g1:=qQB dom_noFin e hc;split at h
  ·cases h
  ·rename_i t2 us2 h2;obtain ⟨g2,e2,p2⟩:=oQA lQC g1.2 h2;split at h
   ·cases h
   ·rename_i t3 us3 h3;obtain ⟨g3,e3,p3⟩:=oQA int_noFin g2.2 h3;split at h
    ·cases h
    ·cases h;exact ⟨⟨p2,g1.3.subset (by rw [e2];simp)⟩,p3,(g2.3.trans g1.3).subset (by rw [e3];simp)⟩
 ·split at h
  ·rename_i hc;have g1:=qQB rel_noFin e hc;split at h
   ·cases h
   ·rename_i t2 us2 h2;obtain ⟨g2,e2,p2⟩:=oQA lQC g1.2 h2;split at h
    ·cases h
    ·rename_i t3 us3 h3;have g3:=list_are lQC g2.2 h3;have l3:=list_len lQC g2.2 h3;split at h
     ·cases h
     ·cases h;refine ⟨⟨p2,g1.3.subset (by rw [e2];simp)⟩,fun c hc=>⟨(g3.1 c hc).1,(g2.3.trans g1.3).subset (g3.1 c hc).2⟩,?_⟩;have:=g1.1;have:=g2.1;omega
  ·split at h
   ·cases h
   ·rename_i a us1 h1;have g1:=fQI e h1;split at h
    ·cases h
    ·rename_i b us2 h2;cases h;obtain ⟨q1,q2⟩:=body_in g1.2 h2;refine ⟨atom_in e h1,fun l hl=>(q1 l hl).mono g1.3,?_⟩;have:=g1.1;omega
theorem items_in {k:Nat} {ts:List Tn} {is:List vQB} (hk:ts.length≤k) (e:bQC ts) (h:zQC k ts=.ok is):(∀ i∈is,ItemIn ts i)∧is.length≤ts.length:=by
 induction k generalizing ts is with
 | zero=>
  obtain ⟨t,us,rfl⟩:=e.cons;simp at hk
 | succ k ih=>
  simp only [zQC] at h;split at h
  ·cases h;exact ⟨fun i hi=>(by cases hi),by simp⟩
  ·split at h
   ·cases h
   ·rename_i i us hi;have g1:=itemG_goes e hi;split at h
    ·cases h
    ·rename_i r hr;cases h;obtain ⟨h1,h2⟩:=ih (by have:=g1.1;omega) g1.2 hr;refine ⟨fun j hj=>?_,?_⟩
     ·rcases List.mem_cons.1 hj with rfl | hj
      ·exact item_in e hi
      ·exact (h1 j hj).mono g1.3
     ·have:=g1.1;rw [List.length_cons];omega
theorem senseS_names {m m':Mean} {is:List vQB} {p:ByteArray→Prop} (hm:∀ r∈m.rels,p r.1) (hi:∀ i∈is,∀ n cs,i=.rel n cs→p (txt n.g)) (h:xQB m is=.ok m'):∀ r∈m'.rels,p r.1:=by
 induction is generalizing m with
 | nil=>cases h;exact hm
 | cons i is ih=>
  simp only [xQB] at h;split at h
  ·cases h
  ·rename_i m1 h1;refine ih ?_ (fun j hj=>hi j (by simp [hj])) h;cases i with
   | dom n z=>
    simp only [nQD,addDom] at h1;split at h1
    ·cases h1
    ·split at h1
     ·cases h1
     ·split at h1
      ·cases h1
      ·cases h1;exact hm
   | rel n cs=>
    simp only [nQD,addRel] at h1;split at h1
    ·cases h1
    ·split at h1
     ·cases h1
     ·split at h1
      ·cases h1
      ·cases h1;intro r hr;rcases List.mem_append.1 hr with q | q
       ·exact hm r q
       ·have e:r=_:=(by simpa using q);rw [e];exact hi _ (by simp) n cs rfl
   | clause a ls=>
    obtain ⟨x,_,_,_,h4⟩:=eQK (by simpa [nQD] using h1);rw [h4];exact hm
end
end Go.Proofs.YtgjomknpjigkhaaGreatDoor
