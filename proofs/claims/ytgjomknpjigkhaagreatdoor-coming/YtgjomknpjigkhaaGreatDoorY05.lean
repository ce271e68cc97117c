import Derived.Test.YtgjomknpjigkhaaGreatDoorY02
import Derived.Shelf.Small.Strs
namespace Go.Proofs.YtgjomknpjigkhaaGreatDoor
open Go.Proofs.Tryz
set_option maxRecDepth 100000
set_option maxHeartbeats 4000000
section
open Go.RowKit
theorem AY (w:World) (o:Obj):(w.alloc o).heap.size=w.heap.size+1:=by simp
theorem Aj {w:World} {base:Nat} {e:TypeId} {size:Nat} {v:Value} {n:Nat} {xs:List Value} (h:w.ownsRow base e size v n xs):∃ a c,v=.slice a n c:=by
 rcases h.2 with ⟨rfl,rfl⟩ | ⟨g,cap,cur,e,_⟩
 ·exact ⟨_,_,rfl⟩
 ·exact ⟨_,_,e⟩
theorem GR {w:World} {base:Nat} {e:TypeId} {size g n c:Nat} {xs:List Value} (h:w.ownsRow base e size (.slice (some ⟨g,0,none⟩) n c) n xs) {i:Nat} {x:Value} (hx:xs[i]?=some x):w.cell? ⟨g,i,none⟩=some x:=by
 have:=World.ownsRow.cells h (g:=g) rfl i x hx;rw [Addr.add_lit,Ad] at this;exact this
theorem Am {w:World} {base:Nat} {e:TypeId} {size n:Nat} {v:Value} {xs:List Value} (h:w.ownsRow base e size v n xs):∀ i,v.ownBlock=some i→base≤i∧∃ cs t,w.heap[i]?=some (.cells cs t (0,0)):=by
 intro i hi;obtain ⟨_,⟨rfl,_⟩ | ⟨g,cap,cur,rfl,hb,hg,_⟩⟩:=h
 ·simp [Value.ownBlock] at hi
 ·simp only [Value.ownBlock,BH] at hi;subst hi;exact ⟨hb,_,_,hg⟩
end
section
inductive Sg where
 | dom | rel | lp | rp | comma | semi | dot | bang | arrow | fin
 | name (s:ByteArray)
 | var (s:ByteArray)
 | int (s:ByteArray)
structure Tn where
 g:Sg
 line:Nat
def DE:Sg→Bool | .name _=>true | _=>false
def B1:Sg→Bool | .var _=>true | .int _=>true | _=>false
def KV:Sg→Bool | .int _=>true | _=>false
def Ik:Sg→Bool | .var _=>true | _=>false
def Lp:Sg→Bool | .dom=>true | _=>false
def M4:Sg→Bool | .rel=>true | _=>false
def Ni:Sg→Bool | .lp=>true | _=>false
def Uu:Sg→Bool | .rp=>true | _=>false
def HO:Sg→Bool | .comma=>true | _=>false
def Kv:Sg→Bool | .semi=>true | _=>false
def Lo:Sg→Bool | .dot=>true | _=>false
def SX:Sg→Bool | .bang=>true | _=>false
def MP:Sg→Bool | .arrow=>true | _=>false
def KX:Sg→Bool | .fin=>true | _=>false
def Cc (p:Sg→Bool):List Tn→Except Nat (Tn×List Tn)
 | []=>.error 0
 | t :: ts=>if p t.g then .ok (t,ts) else .error t.line
def FB (p:Sg→Bool):List Tn→Bool
 | []=>false
 | t :: _=>p t.g
structure Dz where
 name:Tn
 terms:List Tn
structure Dp where
 atom:Dz
 no:Bool
inductive CO where
 | dom (name size:Tn)
 | rel (name:Tn) (cols:List Tn)
 | clause (head:Dz) (lits:List Dp)
def Em (p:Sg→Bool):Nat→List Tn→Except Nat (List Tn×List Tn)
 | 0,ts=>.ok ([],ts)
 | k+1,ts=>
  if FB HO ts then
   match Cc p ts.tail with
   | .error l=>.error l
   | .ok (t,us)=>match Em p k us with
    | .error l=>.error l
    | .ok (r,vs)=>.ok (t :: r,vs)
  else match Cc Uu ts with
   | .error l=>.error l
   | .ok (_,us)=>.ok ([],us)
def FD (p:Sg→Bool) (ts:List Tn):Except Nat (List Tn×List Tn):=
 match Cc Ni ts with
 | .error l=>.error l
 | .ok (_,us)=>match Cc p us with
  | .error l=>.error l
  | .ok (t,vs)=>match Em p vs.length vs with
   | .error l=>.error l
   | .ok (r,xs)=>.ok (t :: r,xs)
def Fu (ts:List Tn):Except Nat (Dz×List Tn):=
 match Cc DE ts with
 | .error l=>.error l
 | .ok (n,us)=>match FD B1 us with
  | .error l=>.error l
  | .ok (r,vs)=>.ok (⟨n,r⟩,vs)
def N5 (ts:List Tn):Except Nat (Dp×List Tn):=
 if FB SX ts then
  match Fu ts.tail with
  | .error l=>.error l
  | .ok (a,us)=>.ok (⟨a,true⟩,us)
 else match Fu ts with
  | .error l=>.error l
  | .ok (a,us)=>.ok (⟨a,false⟩,us)
def Gr:Nat→List Tn→Except Nat (List Dp×List Tn)
 | 0,ts=>.ok ([],ts)
 | k+1,ts=>
  if FB HO ts then
   match N5 ts.tail with
   | .error l=>.error l
   | .ok (t,us)=>match Gr k us with
    | .error l=>.error l
    | .ok (r,vs)=>.ok (t :: r,vs)
  else match Cc Lo ts with
   | .error l=>.error l
   | .ok (_,us)=>.ok ([],us)
def GN (ts:List Tn):Except Nat (List Dp×List Tn):=
 if FB MP ts then
  match N5 ts.tail with
  | .error l=>.error l
  | .ok (t,us)=>match Gr us.length us with
   | .error l=>.error l
   | .ok (r,vs)=>.ok (t :: r,vs)
 else match Cc Lo ts with
  | .error l=>.error l
  | .ok (_,us)=>.ok ([],us)
def GC (ts:List Tn):Except Nat (CO×List Tn):=
 if FB Lp ts then
  match Cc DE ts.tail with
  | .error l=>.error l
  | .ok (n,us)=>match Cc KV us with
   | .error l=>.error l
   | .ok (i,vs)=>match Cc Kv vs with
    | .error l=>.error l
    | .ok (_,xs)=>.ok (.dom n i,xs)
 else if FB M4 ts then
  match Cc DE ts.tail with
  | .error l=>.error l
  | .ok (n,us)=>match FD DE us with
   | .error l=>.error l
   | .ok (c,vs)=>match Cc Kv vs with
    | .error l=>.error l
    | .ok (_,xs)=>.ok (.rel n c,xs)
 else match Fu ts with
  | .error l=>.error l
  | .ok (a,us)=>match GN us with
   | .error l=>.error l
   | .ok (b,vs)=>.ok (.clause a b,vs)
def Dd:Nat→List Tn→Except Nat (List CO)
 | 0,_=>.ok []
 | k+1,ts=>
  if FB KX ts then .ok []
  else match GC ts with
   | .error l=>.error l
   | .ok (i,us)=>match Dd k us with
    | .error l=>.error l
    | .ok r=>.ok (i :: r)
def CX (ts:List Tn):Prop:=∃ us l,ts=us++[⟨.fin,l⟩]∧∀ t∈us,KX t.g=false
theorem CX.cons {ts:List Tn} (h:CX ts):∃ t us,ts=t :: us:=by
 obtain ⟨us,l,rfl,_⟩:=h;cases us with
 | nil=>exact ⟨_,_,rfl⟩
 | cons t us=>exact ⟨t,us++[⟨.fin,l⟩],rfl⟩
theorem CX.tail {t:Tn} {ts:List Tn} (h:CX (t :: ts)) (hf:KX t.g=false):CX ts:=by
 obtain ⟨us,l,he,hn⟩:=h;cases us with
 | nil=>simp at he;rw [he.1] at hf;cases hf
 | cons u us=>
  simp at he;exact ⟨us,l,he.2,fun t ht=>hn t (by simp [ht])⟩
def Ew (p:Sg→Bool):Prop:=p .fin=false
theorem Ew.no {p:Sg→Bool} (h:Ew p) {g:Sg} (hg:p g=true):KX g=false:=by
 cases g <;> first | rfl | (rw [h] at hg;cases hg)
structure Ib (ts us:List Tn):Prop where
 less:us.length<ts.length
 ended:CX us
 suf:us <:+ ts
theorem Ib.trans {a b c:List Tn} (h:Ib a b) (k:Ib b c):Ib a c:=⟨by have:=h.1;have:=k.1;omega,k.2,k.3.trans h.3⟩
theorem BP {p:Sg→Bool} (hp:Ew p) {ts us:List Tn} {t:Tn} (e:CX ts) (h:Cc p ts=.ok (t,us)):Ib ts us∧ts=t :: us∧p t.g=true:=by
 cases ts with
 | nil=>cases h
 | cons x ts=>
  simp only [Cc] at h;split at h
  ·rename_i hx;cases h;exact ⟨⟨by simp,e.tail (hp.no hx),List.suffix_cons _ _⟩,rfl,hx⟩
  ·cases h
theorem Cp {p:Sg→Bool} (hp:Ew p) {ts:List Tn} (e:CX ts) (h:FB p ts=true):Ib ts ts.tail:=by
 cases ts with
 | nil=>cases h
 | cons x ts=>exact ⟨by simp,e.tail (hp.no h),List.suffix_cons _ _⟩
theorem Vq {p:Sg→Bool} {ts:List Tn} (h:FB p ts=true):∃ t,ts=t :: ts.tail∧p t.g=true∧Cc p ts=.ok (t,ts.tail):=by
 cases ts with
 | nil=>cases h
 | cons x ts=>
  have hx:p x.g=true:=h;exact ⟨x,rfl,h,by simp only [Cc];rw [if_pos hx];rfl⟩
theorem Ea:Ew HO:=rfl
theorem Tw:Ew Uu:=rfl
theorem KT:Ew Ni:=rfl
theorem Dj:Ew DE:=rfl
theorem JI:Ew B1:=rfl
theorem Kx:Ew KV:=rfl
theorem Oe:Ew Kv:=rfl
theorem K7:Ew Lo:=rfl
theorem Lr:Ew SX:=rfl
theorem Kh:Ew MP:=rfl
theorem NA:Ew Lp:=rfl
theorem Mr:Ew M4:=rfl
theorem V0 {p:Sg→Bool} (hp:Ew p) {k:Nat} {ts us:List Tn} {r:List Tn} (hk:ts.length≤k) (e:CX ts) (h:Em p k ts=.ok (r,us)):Ib ts us:=by
 induction k generalizing ts us r with
 | zero=>
  obtain ⟨t,us,rfl⟩:=e.cons;simp at hk
 | succ k ih=>
  simp only [Em] at h;split at h
  ·rename_i hc;have g1:=Cp Ea e hc;split at h
   ·cases h
   ·rename_i t us' ht;have g2:=(BP hp g1.2 ht).1;split at h
    ·cases h
    ·rename_i r' vs hr;cases h;exact (g1.trans g2).trans (ih (by have:=g1.1;have:=g2.1;omega) g2.2 hr)
  ·split at h
   ·cases h
   ·rename_i t us' ht;cases h;exact (BP Tw e ht).1
theorem Ln {p:Sg→Bool} (hp:Ew p) {ts us:List Tn} {r:List Tn} (e:CX ts) (h:FD p ts=.ok (r,us)):Ib ts us:=by
 unfold FD at h;split at h
 ·cases h
 ·rename_i t1 us1 h1;have g1:=(BP KT e h1).1;split at h
  ·cases h
  ·rename_i t2 us2 h2;have g2:=(BP hp g1.2 h2).1;split at h
   ·cases h
   ·rename_i r3 us3 h3;cases h;exact (g1.trans g2).trans (V0 hp (AS _) g2.2 h3)
theorem HZ {ts us:List Tn} {a:Dz} (e:CX ts) (h:Fu ts=.ok (a,us)):Ib ts us:=by
 unfold Fu at h;split at h
 ·cases h
 ·rename_i t1 us1 h1;have g1:=(BP Dj e h1).1;split at h
  ·cases h
  ·rename_i r3 us3 h3;cases h;exact g1.trans (Ln JI g1.2 h3)
theorem Gz {ts us:List Tn} {a:Dp} (e:CX ts) (h:N5 ts=.ok (a,us)):Ib ts us:=by
 unfold N5 at h;split at h
 ·rename_i hc;have g1:=Cp Lr e hc;split at h
  ·cases h
  ·rename_i r3 us3 h3;cases h;exact g1.trans (HZ g1.2 h3)
 ·split at h
  ·cases h
  ·rename_i r3 us3 h3;cases h;exact HZ e h3
theorem Wa {k:Nat} {ts us:List Tn} {r:List Dp} (hk:ts.length≤k) (e:CX ts) (h:Gr k ts=.ok (r,us)):Ib ts us:=by
 induction k generalizing ts us r with
 | zero=>
  obtain ⟨t,us,rfl⟩:=e.cons;simp at hk
 | succ k ih=>
  simp only [Gr] at h;split at h
  ·rename_i hc;have g1:=Cp Ea e hc;split at h
   ·cases h
   ·rename_i t us' ht;have g2:=Gz g1.2 ht;split at h
    ·cases h
    ·rename_i r' vs hr;cases h;exact (g1.trans g2).trans (ih (by have:=g1.1;have:=g2.1;omega) g2.2 hr)
  ·split at h
   ·cases h
   ·rename_i t us' ht;cases h;exact (BP K7 e ht).1
theorem XM {ts us:List Tn} {r:List Dp} (e:CX ts) (h:GN ts=.ok (r,us)):Ib ts us:=by
 unfold GN at h;split at h
 ·rename_i hc;have g1:=Cp Kh e hc;split at h
  ·cases h
  ·rename_i t us' ht;have g2:=Gz g1.2 ht;split at h
   ·cases h
   ·rename_i r' vs hr;cases h;exact (g1.trans g2).trans (Wa (AS _) g2.2 hr)
 ·split at h
  ·cases h
  ·rename_i t us' ht;cases h;exact (BP K7 e ht).1
theorem PD {ts us:List Tn} {i:CO} (e:CX ts) (h:GC ts=.ok (i,us)):Ib ts us:=by
 unfold GC at h;split at h
 ·rename_i hc;have g1:=Cp NA e hc;split at h
  ·cases h
  ·rename_i t2 us2 h2;have g2:=(BP Dj g1.2 h2).1;split at h
   ·cases h
   ·rename_i t3 us3 h3;have g3:=(BP Kx g2.2 h3).1;split at h
    ·cases h
    ·rename_i t4 us4 h4;cases h;exact ((g1.trans g2).trans g3).trans (BP Oe g3.2 h4).1
 ·split at h
  ·rename_i hc;have g1:=Cp Mr e hc;split at h
   ·cases h
   ·rename_i t2 us2 h2;have g2:=(BP Dj g1.2 h2).1;split at h
    ·cases h
    ·rename_i t3 us3 h3;have g3:=Ln Dj g2.2 h3;split at h
     ·cases h
     ·rename_i t4 us4 h4;cases h;exact ((g1.trans g2).trans g3).trans (BP Oe g3.2 h4).1
  ·split at h
   ·cases h
   ·rename_i a us1 h1;have g1:=HZ e h1;split at h
    ·cases h
    ·rename_i b us2 h2;cases h;exact g1.trans (XM g1.2 h2)
def ltrG (s:ByteArray) (i:Nat):Int:=if h:i<s.size then (s[i].toNat:Int) else 0
def Is (s:ByteArray):Nat→Int
 | 0=>0
 | k+1=>10 * Is s k+(ltrG s k - 48)
def BF:Sg→ByteArray
 | .dom=>⟨#[100,111,109]⟩ | .rel=>⟨#[114,101,108]⟩ | .lp=>⟨#[40]⟩ | .rp=>⟨#[41]⟩ | .comma=>⟨#[44]⟩ | .semi=>⟨#[59]⟩
 | .dot=>⟨#[46]⟩ | .bang=>⟨#[33]⟩ | .arrow=>⟨#[58,45]⟩ | .fin=>⟨#[]⟩
 | .name s=>s | .var s=>s | .int s=>s
def C6:Sg→Int
 | .int s=>Is s s.size
 | _=>0
structure BR where
 isVar:Bool
 num:Int
structure Bh where
 rel:Nat
 terms:List BR
structure Ae where
 head:Bh
 lits:List (Bh×Bool)
 line:Nat
structure Mean where
 doms:List (ByteArray×Int)
 rels:List (ByteArray×List Nat)
 clauses:List Ae
abbrev J5:=Nat×Nat
abbrev Bk:=List (ByteArray×Nat)
def Cz {A:Type} (l:List (ByteArray×A)) (s:ByteArray):Option Nat:=l.findIdx? (fun p=>decide (p.1=s))
def Mean.dom (m:Mean) (s:ByteArray):Option Nat:=Cz m.doms s
def Mean.rel (m:Mean) (s:ByteArray):Option Nat:=Cz m.rels s
def Mean.taken (m:Mean) (s:ByteArray):Bool:=(m.dom s).isSome || (m.rel s).isSome
def Mean.size (m:Mean) (d:Nat):Int:=(m.doms[d]?.map (·.2)).getD 0
def Mean.cols (m:Mean) (r:Nat):List Nat:=(m.rels[r]?.map (·.2)).getD []
def addDom (m:Mean) (n i:Tn):Except J5 Mean:=
 if m.doms.length=4 then .error (6,n.line)
 else if m.taken (BF n.g) then .error (7,n.line)
 else if C6 i.g<1∨8<C6 i.g then .error (9,i.line)
 else .ok { m with doms:=m.doms++[(BF n.g,C6 i.g)] }
def IU (m:Mean):Nat→List Tn→Except J5 (List Nat)
 | _,[]=>.ok []
 | k,c :: cs=>
  if k=3 then .error (6,c.line)
  else match m.dom (BF c.g) with
   | none=>.error (8,c.line)
   | some d=>match IU m (k+1) cs with
    | .error f=>.error f
    | .ok ds=>.ok (d :: ds)
def addRel (m:Mean) (n:Tn) (cs:List Tn):Except J5 Mean:=
 if m.rels.length=6 then .error (6,n.line)
 else if m.taken (BF n.g) then .error (7,n.line)
 else match IU m 0 cs with
  | .error f=>.error f
  | .ok ds=>.ok { m with rels:=m.rels++[(BF n.g,ds)] }
def II (m:Mean) (sc:Bk) (t:Tn) (d:Nat):Except J5 (BR×Bk):=
 if Ik t.g then
  match Cz sc (BF t.g) with
  | some p=>if (sc[p]?.map (·.2)).getD 0≠d then .error (11,t.line) else .ok (⟨true,p⟩,sc)
  | none=>if sc.length=4 then .error (6,t.line) else .ok (⟨true,sc.length⟩,sc++[(BF t.g,d)])
 else if m.size d≤C6 t.g then .error (9,t.line) else .ok (⟨false,C6 t.g⟩,sc)
def EJ (m:Mean) (sc:Bk):List Tn→List Nat→Except J5 (List BR×Bk)
 | t :: ts,d :: ds=>match II m sc t d with
  | .error f=>.error f
  | .ok (x,sc')=>match EJ m sc' ts ds with
   | .error f=>.error f
   | .ok (xs,sc'')=>.ok (x :: xs,sc'')
 | _,_=>.ok ([],sc)
def Ge (m:Mean) (sc:Bk) (a:Dz):Except J5 (Bh×Bk):=
 match m.rel (BF a.name.g) with
 | none=>.error (8,a.name.line)
 | some r=>if a.terms.length≠(m.cols r).length then .error (10,a.name.line)
  else match EJ m sc a.terms (m.cols r) with
   | .error f=>.error f
   | .ok (xs,sc')=>.ok (⟨r,xs⟩,sc')
def E3 (m:Mean) (sc:Bk):Nat→List Dp→Except J5 (List (Bh×Bool)×Bk)
 | _,[]=>.ok ([],sc)
 | k,l :: ls=>
  if k=4 then .error (6,l.atom.name.line)
  else match Ge m sc l.atom with
   | .error f=>.error f
   | .ok (x,sc')=>match E3 m sc' (k+1) ls with
    | .error f=>.error f
    | .ok (xs,sc'')=>.ok ((x,l.no) :: xs,sc'')
def addClause (m:Mean) (h:Dz) (ls:List Dp):Except J5 Mean:=
 if m.clauses.length=52 then .error (6,h.name.line)
 else match Ge m [] h with
  | .error f=>.error f
  | .ok (x,sc)=>match E3 m sc 0 ls with
   | .error f=>.error f
   | .ok (xs,_)=>.ok { m with clauses:=m.clauses++[⟨x,xs,h.name.line⟩] }
def EB (m:Mean):CO→Except J5 Mean
 | .dom n i=>addDom m n i
 | .rel n cs=>addRel m n cs
 | .clause h ls=>addClause m h ls
def CN (m:Mean):List CO→Except J5 Mean
 | []=>.ok m
 | i :: is=>match EB m i with
  | .error f=>.error f
  | .ok m'=>CN m' is
end
section
open Go.RowKit
def Dw (s:ByteArray) (i:Nat):Int:=if h:i<s.size then (s[i].toNat:Int) else 0
theorem Lm {s:ByteArray} {i:Nat} (h:i<s.size):((s[i]'h).toNat:Int)=Dw s i:=by unfold Dw;rw [dif_pos h]
def DG (p:Int→Bool) (s:ByteArray) (i:Nat):Nat→Nat
 | 0=>i
 | k+1=>if p (Dw s i) then DG p s (i+1) k else i
def B4 (p:Int→Bool) (s:ByteArray):Nat:=DG p s 0 s.size
theorem NS (p:Int→Bool) (s:ByteArray) (i k:Nat):i≤DG p s i k∧DG p s i k≤i+k:=by
 induction k generalizing i with
 | zero=>simp [DG]
 | succ k ih=>
  simp only [DG];split
  ·have:=ih (i+1);omega
  ·omega
theorem FI (p:Int→Bool) (s:ByteArray):B4 p s≤s.size:=by have:=NS p s 0 s.size;unfold B4;omega
def Gl (x:Int):Bool:=!(x == 10)
def DK (x:Int):Bool:=FE x || CW x
theorem SI {w:World} (x:Int):Calls prog 196 #[.int .u8 x] w fun e w'=>e=.returned (.bool (Gl x))∧w' = w:=by
 have hs:(x != 10)=Gl x:=rfl;go_in
 go_wp2_with fail
 go_ret
 exact ⟨by show Ending.returned (.bool (x != 10))=_;rw [hs],rfl⟩
theorem SW {w:World} (x:Int):Calls prog 286 #[.int .u8 x] w fun e w'=>e=.returned (.bool (DK x))∧w' = w:=by
 have hl:=AD (fun w=>LO (w:=w) x);have hd:=AD (fun w=>Il (w:=w) x);have hw:DK x=(FE x || CW x):=rfl;have Hw:=AD hw;clear hw;cases h1:FE x with
 | true=>
  rw [h1] at hl Hw;go_in
  go_wp2_with fail
  refine (hl.out _).mono ?_;rintro e w1 ⟨rfl,rfl⟩;go_wp2_with fail
  go_ret
  exact ⟨by rw [Hw.out];rfl,rfl⟩
 | false=>
  rw [h1] at hl Hw;go_in
  go_wp2_with fail
  refine (hl.out _).mono ?_;rintro e w1 ⟨rfl,rfl⟩;go_wp2_with fail
  refine (hd.out _).mono ?_;rintro e w1 ⟨rfl,rfl⟩;go_wp2_with fail
  go_ret
  exact ⟨by rw [Hw.out];rfl,rfl⟩
theorem Oc {w:World} (s:ByteArray) (hs:s.size≤10000000) :
  Calls prog 195 #[.string s,.func (.func 245) #[] #[]] w fun e w'=>e=.returned (.int .i64 (B4 CW s))∧w' = w:=by
 have Hf:=AD (fun (w:World) (x:Int)=>Il (w:=w) x);go_in
 go_wp2_with fail
 go_loopw [8] (fun y wr=>∃ i:Nat,y=.int .i64 i∧i≤s.size∧B4 CW s=DG CW s i (s.size - i)∧wr=w) (fun y _=>((s.size:Int) - intOf y).toNat)
 case atStart=>exact ⟨0,rfl,by omega,rfl,rfl⟩
 case round=>
  obtain ⟨i,rfl,hi,hsp,rfl⟩:=hrel;by_cases hil:i<s.size
  ·have hiI:(i:Int)<s.size:=(by omega);rw [show s.size - i=(s.size - (i+1))+1 by omega,DG] at hsp;have Hsp:=AD hsp;clear hsp;have hl:=Lm hil;go_wp2_with fail
   refine (Hf.out _ _).mono ?_;rintro e w1 ⟨rfl,rfl⟩;cases hp:CW (Dw s i) with
   | true=>
    go_wp2_with fail
    go_roundw
    ·exact ⟨i+1,by simp,by omega,by rw [Hsp.out,if_pos hp],trivial⟩
    ·simp only [intOf];omega
   | false=>
    go_wp2_with fail
    go_ret
    exact ⟨by show Ending.returned (.int .i64 ((i:Nat):Int))=_;rw [Hsp.out,if_neg (by simp [hp])],rfl⟩
  ·have hiI:¬ (i:Int)<s.size:=(by omega);have e:i=s.size:=(by omega);rw [e,Nat.sub_self,DG] at hsp;have Hsp:=AD hsp;clear hsp e;go_wp2_with fail
   go_ret
   exact ⟨by show Ending.returned (.int .i64 ((s.size:Nat):Int))=_;rw [Hsp.out],rfl⟩
theorem NR {w:World} (s:ByteArray) (hs:s.size≤10000000) :
  Calls prog 195 #[.string s,.func (.func 286) #[] #[]] w fun e w'=>e=.returned (.int .i64 (B4 DK s))∧w' = w:=by
 have Hf:=AD (fun (w:World) (x:Int)=>SW (w:=w) x);go_in
 go_wp2_with fail
 go_loopw [8] (fun y wr=>∃ i:Nat,y=.int .i64 i∧i≤s.size∧B4 DK s=DG DK s i (s.size - i)∧wr=w) (fun y _=>((s.size:Int) - intOf y).toNat)
 case atStart=>exact ⟨0,rfl,by omega,rfl,rfl⟩
 case round=>
  obtain ⟨i,rfl,hi,hsp,rfl⟩:=hrel;by_cases hil:i<s.size
  ·have hiI:(i:Int)<s.size:=(by omega);rw [show s.size - i=(s.size - (i+1))+1 by omega,DG] at hsp;have Hsp:=AD hsp;clear hsp;have hl:=Lm hil;go_wp2_with fail
   refine (Hf.out _ _).mono ?_;rintro e w1 ⟨rfl,rfl⟩;cases hp:DK (Dw s i) with
   | true=>
    go_wp2_with fail
    go_roundw
    ·exact ⟨i+1,by simp,by omega,by rw [Hsp.out,if_pos hp],trivial⟩
    ·simp only [intOf];omega
   | false=>
    go_wp2_with fail
    go_ret
    exact ⟨by show Ending.returned (.int .i64 ((i:Nat):Int))=_;rw [Hsp.out,if_neg (by simp [hp])],rfl⟩
  ·have hiI:¬ (i:Int)<s.size:=(by omega);have e:i=s.size:=(by omega);rw [e,Nat.sub_self,DG] at hsp;have Hsp:=AD hsp;clear hsp e;go_wp2_with fail
   go_ret
   exact ⟨by show Ending.returned (.int .i64 ((s.size:Nat):Int))=_;rw [Hsp.out],rfl⟩
theorem Tt {w:World} (s:ByteArray) (hs:s.size≤10000000) :
  Calls prog 195 #[.string s,.func (.func 196) #[] #[]] w fun e w'=>e=.returned (.int .i64 (B4 Gl s))∧w' = w:=by
 have Hf:=AD (fun (w:World) (x:Int)=>SI (w:=w) x);go_in
 go_wp2_with fail
 go_loopw [8] (fun y wr=>∃ i:Nat,y=.int .i64 i∧i≤s.size∧B4 Gl s=DG Gl s i (s.size - i)∧wr=w) (fun y _=>((s.size:Int) - intOf y).toNat)
 case atStart=>exact ⟨0,rfl,by omega,rfl,rfl⟩
 case round=>
  obtain ⟨i,rfl,hi,hsp,rfl⟩:=hrel;by_cases hil:i<s.size
  ·have hiI:(i:Int)<s.size:=(by omega);rw [show s.size - i=(s.size - (i+1))+1 by omega,DG] at hsp;have Hsp:=AD hsp;clear hsp;have hl:=Lm hil;go_wp2_with fail
   refine (Hf.out _ _).mono ?_;rintro e w1 ⟨rfl,rfl⟩;cases hp:Gl (Dw s i) with
   | true=>
    go_wp2_with fail
    go_roundw
    ·exact ⟨i+1,by simp,by omega,by rw [Hsp.out,if_pos hp],trivial⟩
    ·simp only [intOf];omega
   | false=>
    go_wp2_with fail
    go_ret
    exact ⟨by show Ending.returned (.int .i64 ((i:Nat):Int))=_;rw [Hsp.out,if_neg (by simp [hp])],rfl⟩
  ·have hiI:¬ (i:Int)<s.size:=(by omega);have e:i=s.size:=(by omega);rw [e,Nat.sub_self,DG] at hsp;have Hsp:=AD hsp;clear hsp e;go_wp2_with fail
   go_ret
   exact ⟨by show Ending.returned (.int .i64 ((s.size:Nat):Int))=_;rw [Hsp.out],rfl⟩
def C2 (c l:Int):Ending:=.panicked [{ v:=.iface 28 (.agg #[.int .i64 c,.int .i64 l]),recovered:=false }]
theorem Et {w:World} (c l:Int):Calls prog 132 #[.int .i64 c,.int .i64 l] w fun e w'=>e=C2 c l∧w' = w:=by
 go_in
 go_wp2_with fail
 exact ⟨rfl,rfl,rfl⟩
theorem Jq {w:World} (a b l:Int) (h:¬ b<a):Calls prog 246 #[.int .i64 a,.int .i64 b,.int .i64 l] w fun e w'=>e=.returned (.tuple #[])∧w' = w:=by
 go_in
 go_wp2_with fail
 go_end0
 exact ⟨rfl,rfl⟩
theorem I3 {w:World} (a b l:Int) (h:b<a):Calls prog 246 #[.int .i64 a,.int .i64 b,.int .i64 l] w fun e w'=>e=C2 5 l∧w' = w:=by
 have hg:=AD (fun w=>Et (w:=w) 5 l);go_in
 go_wp2_with fail
 refine (hg.out _).mono ?_;rintro e w1 ⟨rfl,rfl⟩;exact ⟨rfl,rfl,rfl⟩
def Ri:ByteArray:=⟨#[78,65,77,69]⟩
def FT (s:ByteArray):ByteArray:=if (s.toList == [100,111,109])=true∨(s.toList == [114,101,108])=true then s else Ri
theorem VB {w:World} (s:ByteArray) (hs:s.size≤10000000) (l:Int) (h:6<B4 DK s):Calls prog 243 #[.string s,.int .i64 l] w fun e w'=>e=C2 5 l∧w' = w:=by
 have h1:=AD (fun w=>NR (w:=w) s hs);have h2:=AD (fun w=>I3 (w:=w) (B4 DK s) 6 l (by omega));go_in
 go_wp2_with fail
 refine (h1.out _).mono ?_;rintro e w1 ⟨rfl,rfl⟩;go_wp2_with fail
 refine (h2.out _).mono ?_;rintro e w1 ⟨rfl,rfl⟩;exact ⟨rfl,rfl,rfl⟩
theorem XE {w:World} (s:ByteArray) (hs:s.size≤10000000) (l:Int) (h:B4 DK s≤6):Calls prog 243 #[.string s,.int .i64 l] w fun e w'=>e=.returned (.tuple #[.string (FT (s.extract 0 (B4 DK s))),.int .i64 (B4 DK s)])∧w' = w:=by
 have h1:=AD (fun w=>NR (w:=w) s hs);have h2:=AD (fun w=>Jq (w:=w) (B4 DK s) 6 l (by omega));have hle:=FI DK s;generalize B4 DK s=n at h1 h2 hle h ⊢;have hnI:(n:Int)≤s.size:=by omega
 cases hd:((s.extract 0 n).toList == [100,111,109]) with
 | true=>
  have hk:FT (s.extract 0 n)=s.extract 0 n:=by unfold FT;rw [if_pos (.inl hd)]
  rw [hk];go_in
  go_wp2_with fail
  refine (h1.out _).mono ?_;rintro e w1 ⟨rfl,rfl⟩;go_wp2_with fail
  refine (h2.out _).mono ?_;rintro e w1 ⟨rfl,rfl⟩;go_wp2_with fail
  go_ret2
  exact ⟨rfl,rfl⟩
 | false=>
  cases hr:((s.extract 0 n).toList == [114,101,108]) with
  | true=>
   have hk:FT (s.extract 0 n)=s.extract 0 n:=by unfold FT;rw [if_pos (.inr hr)]
   rw [hk];go_in
   go_wp2_with fail
   refine (h1.out _).mono ?_;rintro e w1 ⟨rfl,rfl⟩;go_wp2_with fail
   refine (h2.out _).mono ?_;rintro e w1 ⟨rfl,rfl⟩;go_wp2_with fail
   go_ret2
   exact ⟨rfl,rfl⟩
  | false=>
   have hk:FT (s.extract 0 n)=Ri:=by unfold FT;rw [if_neg (by simp [hd,hr])]
   rw [hk];go_in
   go_wp2_with fail
   refine (h1.out _).mono ?_;rintro e w1 ⟨rfl,rfl⟩;go_wp2_with fail
   refine (h2.out _).mono ?_;rintro e w1 ⟨rfl,rfl⟩;go_wp2_with fail
   go_ret2
   exact ⟨rfl,rfl⟩
def Ul:Go.Shelf.Ren:=⟨fun | 137=>247 | 217=>287 | 266=>297 | x=>x,fun x=>x,fun x=>x⟩
theorem iS:Go.Proofs.Lays.n137 prog Ul:={
 mixed:=by kernel_rfl
 f137:=func247.trans (congrArg some (by kernel_rfl))
 f217:=func287.trans (congrArg some (by kernel_rfl))
 f266:=func297.trans (congrArg some (by kernel_rfl))
 t3:=underlying3
 a3:=Tryz.isAgg3
 z3:=Tryz.sizeOf3
 v3:=Tryz.zeroValue3
 t5:=underlying5
 a5:=Tryz.isAgg5
 z5:=Tryz.sizeOf5
 v5:=Tryz.zeroValue5
 t9:=underlying9
 a9:=Tryz.isAgg9
 z9:=Tryz.sizeOf9
 v9:=Tryz.zeroValue9 }
theorem N6 {w:World} (s:ByteArray) (c:Int):Calls prog 247 #[.string s,.int .u8 c] w fun e w'=>e=.returned (.int .i64 (Lib.indexByte s.data.toList c.toNat.toUInt8))∧w' = w:=Go.Proofs.Any.strings_IndexByte iS s c w
def KU (c:Int):Bool:=c == 40 || c == 41 || c == 44 || c == 59 || c == 46 || c == 33
theorem ZI (c:Int) (h0:0≤c) (h1:c<256):(0≤Lib.indexByte [40,41,44,59,46,33] c.toNat.toUInt8)↔KU c=true:=by
 obtain ⟨n,rfl⟩:∃ n:Nat,c=n:=⟨c.toNat,by omega⟩;have hn:n<256:=by omega
 rw [BO];have key:∀ k:Fin 256,(0≤Lib.indexByte [40,41,44,59,46,33] k.val.toUInt8)↔KU (k.val:Int)=true:=by decide +kernel
 exact key ⟨n,hn⟩
def E5 (s:ByteArray):Bool:=decide (2≤s.size) && ((s.extract 0 2).toList == [58,45])
theorem fD {w:World} (s:ByteArray):Calls prog 288 #[.string s,.string ⟨#[58,45]⟩] w fun e w'=>e=.returned (.bool (E5 s))∧w' = w:=by
 by_cases h2:2≤s.size
 ·have hI:(2:Int)≤s.size:=by omega
  have hk:E5 s=((s.extract 0 2).toList == [58,45]):=by unfold E5;simp [h2]
  rw [hk];go_in
  go_wp2_with fail
  go_ret
  exact ⟨rfl,rfl⟩
 ·have hI:¬ (2:Int)≤s.size:=by omega
  have hk:E5 s=false:=by unfold E5;simp [h2]
  rw [hk];go_in
  go_wp2_with fail
  go_ret
  exact ⟨rfl,rfl⟩
theorem VR {w:World} (s:ByteArray):Calls prog 248 #[.string s,.string ⟨#[58,45]⟩] w fun e w'=>e=.returned (.bool (E5 s))∧w' = w:=by
 have hp:=AD (fun w=>fD (w:=w) s);go_in
 go_wp2_with fail
 refine (hp.out _).mono ?_;rintro e w1 ⟨rfl,rfl⟩;go_wp2_with fail
 go_ret
 exact ⟨rfl,rfl⟩
def Vs:ByteArray:=⟨#[86,65,82]⟩
def Rj:ByteArray:=⟨#[73,78,84]⟩
def aO:ByteArray:=⟨#[58,45]⟩
def Nq (s:ByteArray):Option (ByteArray×Nat):=
 if FE (Dw s 0) then (if B4 DK s≤6 then some (FT (s.extract 0 (B4 DK s)),B4 DK s) else none)
 else if FF (Dw s 0) then some (Vs,1+B4 CW (s.extract 1 (min 2 s.size)))
 else if CW (Dw s 0) then (if B4 CW s≤2 then some (Rj,B4 CW s) else none)
 else if KU (Dw s 0) then some (s.extract 0 1,1)
 else if E5 s then some (aO,2) else none
def CutTo (r:Option (ByteArray×Nat)) (l:Int) (e:Ending):Prop:=match r with
 | some (k,n)=>e=.returned (.tuple #[.string k,.int .i64 n])
 | none=>e=C2 5 l
theorem Zl {w:World} (s:ByteArray) (h0:0<s.size) (hs:s.size≤10000000) (l:Int):Calls prog 197 #[.string s,.int .i64 l] w fun e w'=>CutTo (Nq s) l e∧w' = w:=by
 have hl:=Lm h0;have h0I:(0:Int)<s.size:=by omega
 have hL:=AD (fun (w:World) (x:Int)=>LO (w:=w) x);have hG:=AD (fun (w:World) (x:Int)=>QQ (w:=w) x);have hD:=AD (fun (w:World) (x:Int)=>Il (w:=w) x);unfold Nq;cases h1:FE (Dw s 0) with
 | true=>
  rw [if_pos rfl];by_cases h6:B4 DK s≤6
  ·rw [if_pos h6];have hc:=AD (fun w=>XE (w:=w) s hs l h6);generalize B4 DK s=n at hc ⊢;go_in
   go_wp2_with fail
   refine (hL.out _ _).mono ?_;rintro e w1 ⟨rfl,rfl⟩;rw [h1];go_wp2_with fail
   refine (hc.out _).mono ?_;rintro e w1 ⟨rfl,rfl⟩;go_wp2_with fail
   go_ret2
   exact ⟨rfl,rfl⟩
  ·rw [if_neg h6];have hc:=AD (fun w=>VB (w:=w) s hs l (by omega));go_in
   go_wp2_with fail
   refine (hL.out _ _).mono ?_;rintro e w1 ⟨rfl,rfl⟩;rw [h1];go_wp2_with fail
   refine (hc.out _).mono ?_;rintro e w1 ⟨rfl,rfl⟩;exact ⟨rfl,rfl,rfl⟩
 | false=>
  rw [if_neg (by simp)];cases h2:FF (Dw s 0) with
  | true=>
   rw [if_pos rfl];have hx:=AD (fun w=>Oc (w:=w) (s.extract 1 (min 2 s.size)) (by rw [Aw];omega));have hnl:=FI CW (s.extract 1 (min 2 s.size));rw [Aw] at hnl;generalize B4 CW (s.extract 1 (min 2 s.size))=n at hx hnl ⊢;have hm:min 2 s.size≤s.size:=Nat.min_le_right _ _;have hm1:1≤min 2 s.size:=(by omega);have hmI:min (2:Int) (s.size:Int)=((min 2 s.size:Nat):Int):=(by omega);go_in
   go_wp2_with fail
   refine (hL.out _ _).mono ?_;rintro e w1 ⟨rfl,rfl⟩;rw [h1];go_wp2_with fail
   refine (hG.out _ _).mono ?_;rintro e w1 ⟨rfl,rfl⟩;rw [h2];go_wp2_with fail
   refine (hx.out _).mono ?_;rintro e w1 ⟨rfl,rfl⟩;go_wp2_with fail
   go_ret2
   exact ⟨rfl,rfl⟩
  | false=>
   rw [if_neg (by simp)];cases h3:CW (Dw s 0) with
   | true=>
    rw [if_pos rfl];have hx:=AD (fun w=>Oc (w:=w) s hs);by_cases h6:B4 CW s≤2
    ·rw [if_pos h6];have hf:=AD (fun w=>Jq (w:=w) (B4 CW s) 2 l (by omega));generalize B4 CW s=n at hx hf ⊢;go_in
     go_wp2_with fail
     refine (hL.out _ _).mono ?_;rintro e w1 ⟨rfl,rfl⟩;rw [h1];go_wp2_with fail
     refine (hG.out _ _).mono ?_;rintro e w1 ⟨rfl,rfl⟩;rw [h2];go_wp2_with fail
     refine (hD.out _ _).mono ?_;rintro e w1 ⟨rfl,rfl⟩;rw [h3];go_wp2_with fail
     refine (hx.out _).mono ?_;rintro e w1 ⟨rfl,rfl⟩;go_wp2_with fail
     refine (hf.out _).mono ?_;rintro e w1 ⟨rfl,rfl⟩;go_wp2_with fail
     go_ret2
     exact ⟨rfl,rfl⟩
    ·rw [if_neg h6];have hf:=AD (fun w=>I3 (w:=w) (B4 CW s) 2 l (by omega));go_in
     go_wp2_with fail
     refine (hL.out _ _).mono ?_;rintro e w1 ⟨rfl,rfl⟩;rw [h1];go_wp2_with fail
     refine (hG.out _ _).mono ?_;rintro e w1 ⟨rfl,rfl⟩;rw [h2];go_wp2_with fail
     refine (hD.out _ _).mono ?_;rintro e w1 ⟨rfl,rfl⟩;rw [h3];go_wp2_with fail
     refine (hx.out _).mono ?_;rintro e w1 ⟨rfl,rfl⟩;go_wp2_with fail
     refine (hf.out _).mono ?_;rintro e w1 ⟨rfl,rfl⟩;exact ⟨rfl,rfl,rfl⟩
   | false=>
    rw [if_neg (by simp)];have hi:=AD (fun w=>N6 (w:=w) ⟨#[40,41,44,59,46,33]⟩ (Dw s 0));have hiff:=ZI (Dw s 0) (by rw [←hl];omega) (by rw [←hl];have:=(s[0]'h0).toNat_lt;omega);generalize hr:Lib.indexByte (⟨#[40,41,44,59,46,33]⟩:ByteArray).data.toList (Dw s 0).toNat.toUInt8=r at hi;have hiff':0≤r↔KU (Dw s 0)=true:=by rw [←hr];exact hiff
    clear hiff hr;cases h4:KU (Dw s 0) with
    | true=>
     rw [if_pos rfl];have hr0:0≤r:=hiff'.2 h4;clear hiff';go_in
     go_wp2_with fail
     refine (hL.out _ _).mono ?_;rintro e w1 ⟨rfl,rfl⟩;rw [h1];go_wp2_with fail
     refine (hG.out _ _).mono ?_;rintro e w1 ⟨rfl,rfl⟩;rw [h2];go_wp2_with fail
     refine (hD.out _ _).mono ?_;rintro e w1 ⟨rfl,rfl⟩;rw [h3];go_wp2_with fail
     refine (hi.out _).mono ?_;rintro e w1 ⟨rfl,rfl⟩;go_wp2_with fail
     go_ret2
     exact ⟨rfl,rfl⟩
    | false=>
     rw [if_neg (by simp)];have hr0:¬ 0≤r:=fun h=>by rw [hiff'.1 h] at h4;cases h4
     clear hiff';have ha:=AD (fun w=>VR (w:=w) s);have hg:=AD (fun w=>Et (w:=w) 5 l);cases h5:E5 s with
     | true=>
      rw [if_pos rfl];rw [h5] at ha;go_in
      go_wp2_with fail
      refine (hL.out _ _).mono ?_;rintro e w1 ⟨rfl,rfl⟩;rw [h1];go_wp2_with fail
      refine (hG.out _ _).mono ?_;rintro e w1 ⟨rfl,rfl⟩;rw [h2];go_wp2_with fail
      refine (hD.out _ _).mono ?_;rintro e w1 ⟨rfl,rfl⟩;rw [h3];go_wp2_with fail
      refine (hi.out _).mono ?_;rintro e w1 ⟨rfl,rfl⟩;go_wp2_with fail
      refine (ha.out _).mono ?_;rintro e w1 ⟨rfl,rfl⟩;go_wp2_with fail
      go_ret2
      exact ⟨rfl,rfl⟩
     | false=>
      rw [if_neg (by simp)];rw [h5] at ha;go_in
      go_wp2_with fail
      refine (hL.out _ _).mono ?_;rintro e w1 ⟨rfl,rfl⟩;rw [h1];go_wp2_with fail
      refine (hG.out _ _).mono ?_;rintro e w1 ⟨rfl,rfl⟩;rw [h2];go_wp2_with fail
      refine (hD.out _ _).mono ?_;rintro e w1 ⟨rfl,rfl⟩;rw [h3];go_wp2_with fail
      refine (hi.out _).mono ?_;rintro e w1 ⟨rfl,rfl⟩;go_wp2_with fail
      refine (ha.out _).mono ?_;rintro e w1 ⟨rfl,rfl⟩;go_wp2_with fail
      refine (hg.out _).mono ?_;rintro e w1 ⟨rfl,rfl⟩;exact ⟨rfl,rfl,rfl⟩
structure Tk where
 kind:ByteArray
 text:ByteArray
 line:Nat
def FQ:Nat→ByteArray→Nat→(List Tk×Nat) ⊕ Nat
 | 0,_,l=>.inl ([],l)
 | k+1,s,l=>
  if s.size=0 then .inl ([],l)
  else if Dw s 0=10 then FQ k (s.extract 1 s.size) (l+1)
  else if Dw s 0=32∨Dw s 0=9 then FQ k (s.extract 1 s.size) l
  else if Dw s 0=37 then FQ k (s.extract (B4 Gl s) s.size) l
  else match Nq s with
   | none=>.inr l
   | some (kd,n)=>match FQ k (s.extract n s.size) l with
    | .inl (ts,m)=>.inl (⟨kd,s.extract 0 n,l⟩ :: ts,m)
    | .inr m=>.inr m
theorem GP {p:Int→Bool} {s:ByteArray} (h0:0<s.size) (h:p (Dw s 0)=true):1≤B4 p s:=by
 unfold B4;obtain ⟨k,hk⟩:∃ k,s.size=k+1:=⟨s.size - 1,by omega⟩;rw [hk,DG,if_pos h];exact (NS p s 1 k).1
theorem XQ {s:ByteArray} (h:E5 s=true):2≤s.size:=by
 unfold E5 at h;simp at h;exact h.1
theorem Np {s:ByteArray} (h0:0<s.size) {k:ByteArray} {n:Nat} (h:Nq s=some (k,n)):1≤n∧n≤s.size:=by
 unfold Nq at h;split at h
 ·rename_i hl;split at h
  ·cases h;exact ⟨GP h0 (by unfold DK;rw [hl];rfl),FI _ _⟩
  ·cases h
 ·split at h
  ·cases h;have:=FI CW (s.extract 1 (min 2 s.size));rw [Aw] at this;omega
  ·split at h
   ·rename_i hd;split at h
    ·cases h;exact ⟨GP h0 hd,FI _ _⟩
    ·cases h
   ·split at h
    ·cases h;omega
    ·split at h
     ·rename_i ha;cases h;have:=XQ ha;omega
     ·cases h
end
section
def JB {A:Type} (l:List (ByteArray×A)):Prop:=∀ (i j:Nat) (a b:ByteArray×A),l[i]?=some a→l[j]?=some b→a.1=b.1→i=j
theorem JO {A:Type} {l:List (ByteArray×A)} {s:ByteArray} {p:Nat} (h:Cz l s=some p):∃ a,l[p]?=some (s,a):=by
 unfold Cz at h;obtain ⟨hp,he,_⟩:=B7.1 h;have:l[p].1=s:=by simpa using he
 exact ⟨l[p].2,by rw [AB hp,←this]⟩
theorem R4 {A:Type} {l:List (ByteArray×A)} {s:ByteArray} (h:Cz l s=none):∀ a∈l,a.1≠s:=by
 unfold Cz at h;intro a ha e;have:=Bu.1 h a ha;simp [e] at this
theorem JB.push {A:Type} {l:List (ByteArray×A)} (h:JB l) {s:ByteArray} (hs:Cz l s=none) (a:A):JB (l++[(s,a)]):=by
 have hn:=R4 hs;intro i j x y hi hj e;rw [List.getElem?_append] at hi hj;split at hi
 ·split at hj
  ·exact h i j x y hi hj e
  ·exfalso;have hy:y=(s,a):=by
    cases hk:j - l.length with
    | zero=>rw [hk] at hj;simpa using hj.symm
    | succ k=>rw [hk] at hj;simp at hj
   subst hy;exact hn x (AF hi) e
 ·split at hj
  ·exfalso;have hy:x=(s,a):=by
    cases hk:i - l.length with
    | zero=>rw [hk] at hi;simpa using hi.symm
    | succ k=>rw [hk] at hi;simp at hi
   subst hy;exact hn y (AF hj) e.symm
  ·have h1:i - l.length=0:=by
    cases hk:i - l.length with
    | zero=>rfl
    | succ k=>rw [hk] at hi;simp at hi
   have h2:j - l.length=0:=by
    cases hk:j - l.length with
    | zero=>rfl
    | succ k=>rw [hk] at hj;simp at hj
   omega
def NH (sc:Bk) (t:Tn) (x:BR):Prop:=x.isVar=Ik t.g∧(x.isVar=true→∃ (p:Nat) (d:Nat),x.num=(p:Int)∧sc[p]?=some (BF t.g,d))
def FM (sc:Bk):List Tn→List BR→Prop
 | [],[]=>True
 | t :: ts,x :: xs=>NH sc t x∧FM sc ts xs
 | _,_=>False
def E1 (a b:Bk):Prop:=∃ l,b=a++l
theorem E1.refl (a:Bk):E1 a a:=⟨[],by simp⟩
theorem E1.trans {a b c:Bk} (h:E1 a b) (k:E1 b c):E1 a c:=by
 obtain ⟨l,rfl⟩:=h;obtain ⟨m,rfl⟩:=k;exact ⟨l++m,by simp⟩
theorem E1.at {a b:Bk} (h:E1 a b) {p:Nat} {x:ByteArray×Nat} (hp:a[p]?=some x):b[p]?=some x:=by
 obtain ⟨l,rfl⟩:=h;have hl:p<a.length:=by
  rcases BL p a.length with h | h
  ·exact h
  ·rw [Ac h] at hp;cases hp
 rw [At hl];exact hp
theorem NH.grows {a b:Bk} {t:Tn} {x:BR} (h:NH a t x) (g:E1 a b):NH b t x:=⟨h.1,fun hv=>by
 obtain ⟨p,d,h1,h2⟩:=h.2 hv
 exact ⟨p,d,h1,g.at h2⟩⟩
theorem FM.grows {a b:Bk} {ts:List Tn} {xs:List BR} (h:FM a ts xs) (g:E1 a b):FM b ts xs:=by
 induction ts generalizing xs with
 | nil=>cases xs with
  | nil=>trivial
  | cons x xs=>exact h.elim
 | cons t ts ih=>cases xs with
  | nil=>exact h.elim
  | cons x xs=>exact ⟨h.1.grows g,ih h.2⟩
theorem NP {m:Mean} {sc sc':Bk} {t:Tn} {d:Nat} {x:BR} (ho:JB sc) (h4:sc.length≤4) (h:II m sc t d=.ok (x,sc')):NH sc' t x∧E1 sc sc'∧JB sc'∧sc'.length≤4:=by
 unfold II at h;split at h
 ·rename_i hv;split at h
  ·rename_i p hp;split at h
   ·cases h
   ·cases h;obtain ⟨a,ha⟩:=JO hp;exact ⟨⟨hv.symm,fun _=>⟨p,a,rfl,ha⟩⟩,E1.refl _,ho,h4⟩
  ·rename_i hp;split at h
   ·cases h
   ·rename_i h44;cases h;refine ⟨⟨hv.symm,fun _=>⟨sc.length,d,rfl,?_⟩⟩,⟨_,rfl⟩,ho.push hp d,?_⟩
    ·rw [Aq (AS _)];simp
    ·rw [AN,Ak];omega
 ·rename_i hv;split at h
  ·cases h
  ·cases h;exact ⟨⟨by simpa using hv,fun hc=>by cases hc⟩,E1.refl _,ho,h4⟩
theorem Rd {m:Mean} {sc sc':Bk} {ts:List Tn} {ds:List Nat} {xs:List BR} (hl:ts.length=ds.length) (ho:JB sc) (h4:sc.length≤4) (h:EJ m sc ts ds=.ok (xs,sc')):FM sc' ts xs∧E1 sc sc'∧JB sc'∧sc'.length≤4:=by
 induction ts generalizing sc sc' ds xs with
 | nil=>simp only [EJ] at h;cases h;exact ⟨trivial,E1.refl _,ho,h4⟩
 | cons t ts ih=>cases ds with
  | nil=>cases hl
  | cons d ds=>
   simp only [EJ] at h;split at h
   ·cases h
   ·rename_i x sc1 h1;obtain ⟨m1,g1,o1,l1⟩:=NP ho h4 h1;split at h
    ·cases h
    ·rename_i xs' sc2 h2;cases h;obtain ⟨m2,g2,o2,l2⟩:=ih (by simpa using hl) o1 l1 h2;exact ⟨⟨m1.grows g2,m2⟩,g1.trans g2,o2,l2⟩
theorem IV {m:Mean} {sc sc':Bk} {a:Dz} {x:Bh} (ho:JB sc) (h4:sc.length≤4) (h:Ge m sc a=.ok (x,sc')):FM sc' a.terms x.terms∧E1 sc sc'∧JB sc'∧sc'.length≤4:=by
 unfold Ge at h;split at h
 ·cases h
 ·split at h
  ·cases h
  ·rename_i hl;split at h
   ·cases h
   ·rename_i h1;cases h;exact Rd (by simpa using hl) ho h4 h1
def IZ (sc:Bk):List Dp→List (Bh×Bool)→Prop
 | [],[]=>True
 | l :: ls,x :: xs=>FM sc l.atom.terms x.1.terms∧x.2=l.no∧IZ sc ls xs
 | _,_=>False
theorem UZ {m:Mean} {sc sc':Bk} {k:Nat} {ls:List Dp} {xs:List (Bh×Bool)} (ho:JB sc) (h4:sc.length≤4) (h:E3 m sc k ls=.ok (xs,sc')):IZ sc' ls xs∧E1 sc sc'∧JB sc'∧sc'.length≤4:=by
 induction ls generalizing sc sc' k xs with
 | nil=>simp only [E3] at h;cases h;exact ⟨trivial,E1.refl _,ho,h4⟩
 | cons l ls ih=>
  simp only [E3] at h;split at h
  ·cases h
  ·split at h
   ·cases h
   ·rename_i x sc1 h1;obtain ⟨m1,g1,o1,l1⟩:=IV ho h4 h1;split at h
    ·cases h
    ·rename_i xs' sc2 h2;cases h;obtain ⟨m2,g2,o2,l2⟩:=ih o1 l1 h2;exact ⟨⟨m1.grows g2,rfl,m2⟩,g1.trans g2,o2,l2⟩
def XV (c:Dz×List Dp) (x:Ae):Prop:=∃ sc,JB sc∧sc.length≤4∧FM sc c.1.terms x.head.terms∧IZ sc c.2 x.lits∧x.line=c.1.name.line
def E7:List (Dz×List Dp)→List Ae→Prop
 | [],[]=>True
 | c :: cs,x :: xs=>XV c x∧E7 cs xs
 | _,_=>False
theorem E7.append {a b:List (Dz×List Dp)} {x y:List Ae} (h:E7 a x) (k:E7 b y):E7 (a++b) (x++y):=by
 induction a generalizing x with
 | nil=>cases x with
  | nil=>exact k
  | cons _ _=>exact h.elim
 | cons c a ih=>cases x with
  | nil=>exact h.elim
  | cons z x=>exact ⟨h.1,ih h.2⟩
def GG:List CO→List (Dz×List Dp)
 | []=>[]
 | .clause h ls :: is=>(h,ls) :: GG is
 | _ :: is=>GG is
def OI:CO→List (Dz×List Dp)
 | .clause h ls=>[(h,ls)]
 | _=>[]
theorem Js {m m':Mean} {a:Dz} {ls:List Dp} (h:addClause m a ls=.ok m'):∃ x,m'.clauses=m.clauses++[x]∧XV (a,ls) x∧m'.doms=m.doms∧m'.rels=m.rels:=by
 unfold addClause at h;split at h
 ·cases h
 ·split at h
  ·cases h
  ·rename_i x sc h1;obtain ⟨m1,g1,o1,l1⟩:=IV (sc:=[]) (by intro i j a b h;simp at h) (by simp) h1;split at h
   ·cases h
   ·rename_i xs sc2 h2;obtain ⟨m2,g2,o2,l2⟩:=UZ o1 l1 h2;cases h;exact ⟨_,rfl,⟨sc2,o2,l2,m1.grows g2,m2,rfl⟩,rfl,rfl⟩
theorem Qa {m m':Mean} {i:CO} {cs:List (Dz×List Dp)} (hm:E7 cs m.clauses) (h:EB m i=.ok m'):E7 (cs++OI i) m'.clauses:=by
 cases i with
 | dom n z=>
  simp only [EB,addDom] at h;split at h
  ·cases h
  ·split at h
   ·cases h
   ·split at h
    ·cases h
    ·cases h;simpa [OI] using hm
 | rel n z=>
  simp only [EB,addRel] at h;split at h
  ·cases h
  ·split at h
   ·cases h
   ·split at h
    ·cases h
    ·cases h;simpa [OI] using hm
 | clause a ls=>
  obtain ⟨x,h1,h2,_⟩:=Js h;rw [h1];exact hm.append ⟨h2,trivial⟩
theorem Rp {m m':Mean} {is:List CO} {cs:List (Dz×List Dp)} (hm:E7 cs m.clauses) (h:CN m is=.ok m'):E7 (cs++GG is) m'.clauses:=by
 induction is generalizing m cs with
 | nil=>simp only [CN] at h;cases h;simpa [GG] using hm
 | cons i is ih=>
  simp only [CN] at h;split at h
  ·cases h
  ·rename_i m1 h1;have:=ih (Qa hm h1) h;rw [Ag] at this;cases i <;> simpa [GG,OI] using this
def Fz (xs:List BR):List Int:=(xs.filter (·.isVar)).map (·.num)
def Ps (c:Ae):List Int:=Fz c.head.terms++(c.lits.filter (·.2)).flatMap fun l=>Fz l.1.terms
def TC (c:Ae):List Int:=(c.lits.filter (fun l=>!l.2)).flatMap fun l=>Fz l.1.terms
def Eo (c:Ae):Bool:=(Ps c).any fun n=>!decide (n∈TC c)
abbrev Eg:=List (Nat×Nat)
inductive EO (E:Eg):Nat→Nat→Prop
 | here (a:Nat):EO E a a
 | step {a b c:Nat} (h:(a,b)∈E) (k:EO E b c):EO E a c
theorem EO.trans {E:Eg} {a b c:Nat} (h:EO E a b) (k:EO E b c):EO E a c:=by
 induction h with
 | here=>exact k
 | step h _ ih=>exact .step h (ih k)
def stepR (T:Nat→Bool) (e:Nat×Nat):Nat→Bool:=fun j=>T j || (T e.1 && decide (j=e.2))
def Ie (E:Eg) (T:Nat→Bool):Nat→Bool:=E.foldl stepR T
def JL (E:Eg):Nat→(Nat→Bool)→(Nat→Bool)
 | 0,T=>T
 | k+1,T=>JL E k (Ie E T)
def IS (n:Nat) (E:Eg) (a b:Nat):Bool:=JL E n (fun j=>decide (j=a)) b
theorem KN (E:Eg) (T:Nat→Bool) {j:Nat} (h:T j=true):Ie E T j=true:=by
 unfold Ie;induction E generalizing T with
 | nil=>exact h
 | cons e E ih=>exact ih _ (by simp [stepR,h])
theorem Rx (E:Eg) (k:Nat) (T:Nat→Bool) {j:Nat} (h:T j=true):JL E k T j=true:=by
 induction k generalizing T with
 | zero=>exact h
 | succ k ih=>exact ih _ (KN E T h)
theorem Tx (E:Eg) (T:Nat→Bool) {e:Nat×Nat} (he:e∈E) (h:T e.1=true):Ie E T e.2=true:=by
 unfold Ie;induction E generalizing T with
 | nil=>cases he
 | cons x E ih=>
  rcases AJ.1 he with rfl | he
  ·exact KN E _ (by simp [stepR,h])
  ·exact ih (stepR T x) he (by simp [stepR,h])
def Mi (E:Eg) (T:Nat→Bool):Prop:=∀ e∈E,T e.1=true→T e.2=true
theorem QJ {E:Eg} {T:Nat→Bool} (h:Mi E T):Ie E T=T:=by
 unfold Ie;induction E with
 | nil=>rfl
 | cons x E ih=>
  have hx:stepR T x=T:=by
   funext j
   simp only [stepR];cases hj:T j with
   | true=>rfl
   | false=>
    cases h1:T x.1 with
    | false=>rfl
    | true=>
     have h2:=h x (by simp) h1;have:j≠x.2:=by intro e;rw [e,h2] at hj;cases hj
     simp [this]
  rw [D8,hx];exact ih fun e he=>h e (by simp [he])
def jW (n:Nat) (T:Nat→Bool):Nat:=((List.range n).filter T).length
theorem Sw (n:Nat) (T:Nat→Bool):jW n T≤n:=by
 have:=BX T (List.range n);unfold jW;simpa using this
theorem Jr {A:Type} {l:List A} {p q:A→Bool} (h:∀ a∈l,p a=true→q a=true):(l.filter p).length≤(l.filter q).length:=by
 induction l with
 | nil=>simp
 | cons a l ih=>
  have IH:=ih fun b hb=>h b (by simp [hb]);cases hp:p a with
  | true=>rw [BB hp,BB (h a (by simp) hp)];simp;exact IH
  | false=>
   rw [BC (by simp [hp])];cases hq:q a with
   | true=>rw [BB hq];simp;omega
   | false=>rw [BC (by simp [hq])];exact IH
theorem N7 {A:Type} {l:List A} {p q:A→Bool} (h:∀ a∈l,p a=true→q a=true) {x:A} (hx:x∈l) (h1:p x=false) (h2:q x=true):(l.filter p).length<(l.filter q).length:=by
 induction l with
 | nil=>cases hx
 | cons a l ih=>
  have M:=Jr (l:=l) fun b hb=>h b (by simp [hb]);rcases AJ.1 hx with rfl | hx
  ·rw [BC (by simp [h1]),BB h2];simp;omega
  ·have IH:=ih (fun b hb=>h b (by simp [hb])) hx;cases hp:p a with
   | true=>rw [BB hp,BB (h a (by simp) hp)];simp;exact IH
   | false=>
    rw [BC (by simp [hp])];cases hq:q a with
    | true=>rw [BB hq];simp;omega
    | false=>rw [BC (by simp [hq])];exact IH
theorem eO {n:Nat} {T U:Nat→Bool} (h:∀ j,j<n→T j=true→U j=true):jW n T≤jW n U:=Jr fun a ha=>h a (by simpa using ha)
theorem MV {n:Nat} {T U:Nat→Bool} (h:∀ j,j<n→T j=true→U j=true) {x:Nat} (hx:x<n) (h1:T x=false) (h2:U x=true):jW n T<jW n U:=
 N7 (fun a ha=>h a (by simpa using ha)) (by simpa using hx) h1 h2
def Below (n:Nat) (E:Eg):Prop:=∀ e∈E,e.1<n∧e.2<n
theorem MF {E:Eg} {T:Nat→Bool} (h:Mi E T) (k:Nat):JL E k T=T:=by
 induction k with
 | zero=>rfl
 | succ k ih=>rw [JL,QJ h];exact ih
theorem Rw {n:Nat} {E:Eg} (hE:Below n E) (k:Nat) (T:Nat→Bool) (hk:n<jW n T+k):Mi E (JL E k T):=by
 induction k generalizing T with
 | zero=>have:=Sw n T;omega
 | succ k ih=>
  by_cases hc:Mi E T
  ·rw [MF hc];exact hc
  ·obtain ⟨e,he,h1,h2⟩:∃ e,e∈E∧T e.1=true∧T e.2=false:=by
    refine Classical.byContradiction fun hn=>hc fun e he h1=>?_;refine Classical.byContradiction fun h2=>hn ⟨e,he,h1,by simpa using h2⟩
   have:=MV (n:=n) (T:=T) (U:=Ie E T) (fun j _ hj=>KN E T hj) (hE e he).2 h2 (Tx E T he h1);exact ih _ (by omega)
theorem Tr {E:Eg} {a:Nat} {T:Nat→Bool} (h:∀ j,T j=true→EO E a j) {e:Nat×Nat} (he:e∈E):∀ j,stepR T e j=true→EO E a j:=by
 intro j hj;simp only [stepR,Cw,Ao,decide_eq_true_eq] at hj;rcases hj with hj | ⟨h1,rfl⟩
 ·exact h j hj
 ·exact (h _ h1).trans (.step he (.here _))
theorem Ry {E F:Eg} {a:Nat} {T:Nat→Bool} (hF:∀ e∈F,e∈E) (h:∀ j,T j=true→EO E a j):∀ j,Ie F T j=true→EO E a j:=by
 unfold Ie;induction F generalizing T with
 | nil=>exact h
 | cons e F ih=>exact ih (fun x hx=>hF x (by simp [hx])) (Tr h (hF e (by simp)))
theorem QI {E:Eg} {a:Nat} {T:Nat→Bool} (h:∀ j,T j=true→EO E a j) (k:Nat):∀ j,JL E k T j=true→EO E a j:=by
 induction k generalizing T with
 | zero=>exact h
 | succ k ih=>exact ih (Ry (fun _ h=>h) h)
theorem Sx {E:Eg} {T:Nat→Bool} (h:Mi E T) {a b:Nat} (ha:T a=true) (r:EO E a b):T b=true:=by
 induction r with
 | here=>exact ha
 | step he _ ih=>exact ih (h _ he ha)
theorem GU {n:Nat} {E:Eg} (hE:Below n E) {a b:Nat} (ha:a<n):IS n E a b=true↔EO E a b:=by
 constructor
 ·exact QI (a:=a) (fun j hj=>by simp at hj;subst hj;exact .here _) n b
 ·intro r;have h1:0<jW n (fun j=>decide (j=a)):=by
   have:=MV (n:=n) (T:=fun _=>false) (U:=fun j=>decide (j=a)) (fun j _ h=>by cases h) ha rfl (by simp);omega
  have hc:=Rw hE n (fun j=>decide (j=a)) (by omega);exact Sx hc (Rx E n _ (by simp)) r
theorem Vu {n:Nat} {E:Eg} (hE:Below n E) {S:Nat→Nat→Bool} (hs:∀ i j,i<n→S i j=true→EO E i j) (hi:∀ i,i<n→S i i=true)
  (hc:∀ e∈E,∀ j,S e.2 j=true→S e.1 j=true) {a b:Nat} (ha:a<n):S a b=IS n E a b:=by
 rw [Bn,GU hE ha];refine ⟨hs a b ha,fun r=>?_⟩;induction r with
 | here=>exact hi _ ha
 | step he _ ih=>exact hc _ he _ (ih (hE _ he).2)
def FC (n:Nat) (E:Eg) (a:Nat):Nat:=jW n (IS n E a)
theorem QM {n:Nat} {E:Eg} (hE:Below n E) {a b:Nat} (he:(a,b)∈E):FC n E b≤FC n E a:=by
 refine eO fun j _ hj=>?_;rw [GU hE (hE _ he).2] at hj;rw [GU hE (hE _ he).1];exact .step he hj
theorem R2 {n:Nat} {E:Eg} (hE:Below n E) {a b:Nat} (he:(a,b)∈E) (hn:IS n E b a=false):FC n E b+1≤FC n E a:=by
 refine MV (fun j _ hj=>?_) (hE _ he).1 hn ?_
 ·rw [GU hE (hE _ he).2] at hj;rw [GU hE (hE _ he).1];exact .step he hj
 ·rw [GU hE (hE _ he).1];exact .here _
theorem R1 {n:Nat} {E:Eg} (hE:Below n E) {a:Nat} (ha:a<n):1≤FC n E a:=by
 have:=MV (n:=n) (T:=fun _=>false) (U:=IS n E a) (fun j _ h=>by cases h) ha rfl ((GU hE ha).2 (.here _));unfold FC;omega
def PS (c:Ae):Eg:=c.lits.map fun l=>(c.head.rel,l.1.rel)
def DL (cs:List Ae):Eg:=cs.flatMap PS
def FY (n:Nat) (E:Eg) (c:Ae):Bool:=c.lits.any fun l=>l.2 && IS n E l.1.rel c.head.rel
def El (p:Ae→Bool):List Ae→Option Nat
 | []=>none
 | c :: cs=>if p c then some c.line else El p cs
def Mz (m:Mean):Except J5 Mean:=
 match El Eo m.clauses with
 | some l=>.error (12,l)
 | none=>match El (FY m.rels.length (DL m.clauses)) m.clauses with
  | some l=>.error (13,l)
  | none=>.ok m
def Ly (n:Nat) (c:Ae):Prop:=c.head.rel<n∧∀ l∈c.lits,l.1.rel<n
theorem IT {n:Nat} {cs:List Ae} (h:∀ c∈cs,Ly n c):Below n (DL cs):=by
 intro e he;simp only [DL,PS,A2,AR] at he;obtain ⟨c,hc,l,hl,rfl⟩:=he;exact ⟨(h c hc).1,(h c hc).2 l hl⟩
theorem Es {A:Type} {l:List (ByteArray×A)} {s:ByteArray} {p:Nat} (h:Cz l s=some p):p<l.length:=by
 obtain ⟨a,ha⟩:=JO h;rcases BL p l.length with h | h
 ·exact h
 ·rw [Ac h] at ha;cases ha
theorem RK {m:Mean} {sc sc':Bk} {a:Dz} {x:Bh} (h:Ge m sc a=.ok (x,sc')):x.rel<m.rels.length:=by
 unfold Ge at h;split at h
 ·cases h
 ·rename_i r hr;split at h
  ·cases h
  ·split at h
   ·cases h
   ·cases h;exact Es hr
theorem ZK {m:Mean} {sc sc':Bk} {k:Nat} {ls:List Dp} {xs:List (Bh×Bool)} (h:E3 m sc k ls=.ok (xs,sc')):∀ l∈xs,l.1.rel<m.rels.length:=by
 induction ls generalizing sc sc' k xs with
 | nil=>simp only [E3] at h;cases h;intro l hl;cases hl
 | cons l ls ih=>
  simp only [E3] at h;split at h
  ·cases h
  ·split at h
   ·cases h
   ·rename_i x sc1 h1;split at h
    ·cases h
    ·rename_i xs' sc2 h2;cases h;intro l hl;rcases AJ.1 hl with rfl | hl
     ·exact RK h1
     ·exact ih h2 l hl
structure DF (m:Mean):Prop where
 doms:m.doms.length≤4
 rels:m.rels.length≤6
 clauses:m.clauses.length≤52
 onceD:JB m.doms
 onceR:JB m.rels
 cols:∀ r∈m.rels,r.2.length≤3∧∀ d∈r.2,d<m.doms.length
 inR:∀ c∈m.clauses,Ly m.rels.length c
 lits:∀ c∈m.clauses,c.lits.length≤4
 sizes:∀ d∈m.doms,1≤d.2∧d.2≤8
theorem DF.empty:DF ⟨[],[],[]⟩:=⟨by simp,by simp,by simp,by intro i j a b h;simp at h,by intro i j a b h;simp at h,by simp,by simp,by simp,by simp⟩
theorem VE {m:Mean} {k:Nat} {cs:List Tn} {ds:List Nat} (hk:k≤3) (h:IU m k cs=.ok ds):ds.length+k≤3∧ds.length=cs.length∧∀ d∈ds,d<m.doms.length:=by
 induction cs generalizing k ds with
 | nil=>simp only [IU] at h;cases h;simp;omega
 | cons c cs ih=>
  simp only [IU] at h;split at h
  ·cases h
  ·split at h
   ·cases h
   ·rename_i d hd;split at h
    ·cases h
    ·rename_i ds' h2;cases h;obtain ⟨h3,h4,h5⟩:=ih (by omega) h2;refine ⟨by simp;omega,by simp;omega,fun d hd'=>?_⟩;rcases AJ.1 hd' with rfl | hd'
     ·exact Es hd
     ·exact h5 d hd'
theorem ZL {m:Mean} {sc sc':Bk} {k:Nat} {ls:List Dp} {xs:List (Bh×Bool)} (hk:k≤4) (h:E3 m sc k ls=.ok (xs,sc')):xs.length+k≤4:=by
 induction ls generalizing sc sc' k xs with
 | nil=>simp only [E3] at h;cases h;simp;omega
 | cons l ls ih=>
  simp only [E3] at h;split at h
  ·cases h
  ·split at h
   ·cases h
   ·split at h
    ·cases h
    ·rename_i h2;cases h;have:=ih (by omega) h2;simp;omega
theorem Lv {m m':Mean} {i:CO} (hm:DF m) (h:EB m i=.ok m'):DF m':=by
 cases i with
 | dom n z=>
  simp only [EB,addDom] at h;split at h
  ·cases h
  ·rename_i h4;split at h
   ·cases h
   ·rename_i ht;split at h
    ·cases h
    ·rename_i hz;cases h;have hno:Cz m.doms (BF n.g)=none:=by
      simp [Mean.taken,Mean.dom] at ht;exact ht.1
     exact ⟨by have:=hm.doms;simp;omega,hm.rels,hm.clauses,hm.onceD.push hno _,hm.onceR,fun r hr=>⟨(hm.cols r hr).1,fun d hd=>by have:=(hm.cols r hr).2 d hd;simp;omega⟩,hm.inR,hm.lits,fun d hd=>by
      rcases AC.1 hd with hd | hd
      ·exact hm.sizes d hd
      ·simp at hd;subst hd;simp;omega⟩
 | rel n z=>
  simp only [EB,addRel] at h;split at h
  ·cases h
  ·rename_i h6;split at h
   ·cases h
   ·rename_i ht;split at h
    ·cases h
    ·rename_i ds hds;cases h;have hno:Cz m.rels (BF n.g)=none:=by
      simp [Mean.taken,Mean.rel] at ht;exact ht.2
     obtain ⟨c1,c2,c3⟩:=VE (by omega) hds
     exact ⟨hm.doms,by have:=hm.rels;simp;omega,hm.clauses,hm.onceD,hm.onceR.push hno _,fun r hr=>by
      rcases AC.1 hr with hr | hr
      ·exact hm.cols r hr
      ·simp at hr;subst hr;exact ⟨by omega,c3⟩,fun c hc=>⟨by have:=(hm.inR c hc).1;simp;omega,fun l hl=>by have:=(hm.inR c hc).2 l hl;simp;omega⟩,hm.lits,hm.sizes⟩
 | clause a ls=>
  simp only [EB,addClause] at h;split at h
  ·cases h
  ·rename_i h52;split at h
   ·cases h
   ·rename_i x sc h1;split at h
    ·cases h
    ·rename_i xs sc2 h2;cases h
     exact ⟨hm.doms,hm.rels,by have:=hm.clauses;simp;omega,hm.onceD,hm.onceR,hm.cols,fun c hc=>by
      rcases AC.1 hc with hc | hc
      ·exact hm.inR c hc
      ·simp at hc;subst hc;exact ⟨RK (m:=m) h1,ZK (m:=m) h2⟩,fun c hc=>by
      rcases AC.1 hc with hc | hc
      ·exact hm.lits c hc
      ·simp at hc;subst hc;have:=ZL (by omega) h2;simp;omega,hm.sizes⟩
theorem Yn {m m':Mean} {is:List CO} (hm:DF m) (h:CN m is=.ok m'):DF m':=by
 induction is generalizing m with
 | nil=>simp only [CN] at h;cases h;exact hm
 | cons i is ih=>
  simp only [CN] at h;split at h
  ·cases h
  ·rename_i m1 h1;exact ih (Lv hm h1) h
def LF (n:Int):ByteArray:=if 10≤n then ⟨#[(48+n / 10).toNat.toUInt8,(48+n % 10).toNat.toUInt8]⟩ else ⟨#[(48+n % 10).toNat.toUInt8]⟩
def P4 (ts:List Tn) (l:Nat):Prop:=∃ t∈ts,t.line=l
theorem P4.of {ts us:List Tn} {l:Nat} (h:P4 us l) (g:Ib ts us):P4 ts l:=by
 obtain ⟨t,ht,e⟩:=h;exact ⟨t,g.suf.subset ht,e⟩
theorem Ql {p:Sg→Bool} {ts:List Tn} {l:Nat} (e:CX ts) (h:Cc p ts=.error l):P4 ts l:=by
 obtain ⟨t,us,rfl⟩:=e.cons;simp only [Cc] at h;split at h
 ·cases h
 ·cases h;exact ⟨t,by simp,rfl⟩
theorem nY {p:Sg→Bool} (hp:Ew p) {k:Nat} {ts:List Tn} {l:Nat} (hk:ts.length≤k) (e:CX ts) (h:Em p k ts=.error l):P4 ts l:=by
 induction k generalizing ts with
 | zero=>
  obtain ⟨t,us,rfl⟩:=e.cons;simp at hk
 | succ k ih=>
  simp only [Em] at h;split at h
  ·rename_i hc;have g1:=Cp Ea e hc;split at h
   ·rename_i hl;cases h;exact (Ql g1.2 hl).of g1
   ·rename_i t us' ht;have g2:=(BP hp g1.2 ht).1;split at h
    ·rename_i hl;cases h;exact (ih (by have:=g1.1;have:=g2.1;omega) g2.2 hl).of (g1.trans g2)
    ·cases h
  ·split at h
   ·rename_i hl;cases h;exact Ql e hl
   ·cases h
theorem bH {p:Sg→Bool} (hp:Ew p) {k:Nat} {ts us r:List Tn} (hk:ts.length≤k) (e:CX ts) (h:Em p k ts=.ok (r,us)):∀ t∈r,p t.g=true∧t∈ts:=by
 induction k generalizing ts us r with
 | zero=>
  obtain ⟨t,us,rfl⟩:=e.cons;simp at hk
 | succ k ih=>
  simp only [Em] at h;split at h
  ·rename_i hc;have g1:=Cp Ea e hc;split at h
   ·cases h
   ·rename_i t us' ht;obtain ⟨g2,e2,p2⟩:=BP hp g1.2 ht;split at h
    ·cases h
    ·rename_i r' vs hr;cases h;intro x hx;rcases AJ.1 hx with rfl | hx
     ·exact ⟨p2,g1.suf.subset (by rw [e2];simp)⟩
     ·obtain ⟨a,b⟩:=ih (by have:=g1.1;have:=g2.1;omega) g2.2 hr x hx;exact ⟨a,(g1.trans g2).suf.subset b⟩
  ·split at h
   ·cases h
   ·cases h;intro x hx;cases hx
theorem Ue {p:Sg→Bool} (hp:Ew p) {ts us r:List Tn} (e:CX ts) (h:FD p ts=.ok (r,us)):(∀ t∈r,p t.g=true∧t∈ts)∧r≠[]:=by
 unfold FD at h;split at h
 ·cases h
 ·rename_i t1 us1 h1;have g1:=(BP KT e h1).1;split at h
  ·cases h
  ·rename_i t2 us2 h2;obtain ⟨g2,e2,p2⟩:=BP hp g1.2 h2;split at h
   ·cases h
   ·rename_i r3 us3 h3;cases h;refine ⟨fun x hx=>?_,by simp⟩;rcases AJ.1 hx with rfl | hx
    ·exact ⟨p2,g1.suf.subset (by rw [e2];simp)⟩
    ·obtain ⟨a,b⟩:=bH hp (AS _) g2.2 h3 x hx;exact ⟨a,(g1.trans g2).suf.subset b⟩
theorem eZ {ts us:List Tn} {a:Dz} (e:CX ts) (h:Fu ts=.ok (a,us)):(∀ t∈a.terms,B1 t.g=true∧t∈ts)∧a.terms≠[]∧DE a.name.g=true∧a.name∈ts:=by
 unfold Fu at h;split at h
 ·cases h
 ·rename_i t1 us1 h1;obtain ⟨g1,e1,p1⟩:=BP Dj e h1;split at h
  ·cases h
  ·rename_i r3 us3 h3;cases h;obtain ⟨a1,a2⟩:=Ue JI g1.2 h3;exact ⟨fun t ht=>⟨(a1 t ht).1,g1.suf.subset (a1 t ht).2⟩,a2,p1,by rw [e1];simp⟩
end
section
open Go.RowKit
theorem Rh {a b:ByteArray}:(a.toList == b.toList)=true↔a=b:=by
 rw [ByteArray.toList_eq,ByteArray.toList_eq,beq_iff_eq];constructor
 ·intro h;obtain ⟨⟨x⟩⟩:=a;obtain ⟨⟨y⟩⟩:=b;have h':x=y:=h;subst h';rfl
 ·intro h;rw [h]
theorem G9 (l:List UInt8):(⟨⟨l⟩⟩:ByteArray).toList=l:=by rw [ByteArray.toList_eq]
theorem N9 {a:ByteArray} {l:List UInt8}:(a.toList == l)=true↔a=⟨⟨l⟩⟩:=by
 have h1:=Rh (a:=a) (b:=⟨⟨l⟩⟩);have h2:=G9 l;generalize ByteArray.toList ⟨⟨l⟩⟩=x at h1 h2;subst h2;exact h1
def AW:Sg→ByteArray
 | .name _=>Ri
 | .var _=>Vs
 | .int _=>Rj
 | .fin=>⟨#[101,110,100]⟩
 | g=>BF g
def Vk (t:Tn):Tk:=⟨AW t.g,BF t.g,t.line⟩
def Jn (s:ByteArray):Sg:=if (s.toList == [100,111,109])=true then .dom else if (s.toList == [114,101,108])=true then .rel else .name s
def Xx (c:Int):Sg:=if c=40 then .lp else if c=41 then .rp else if c=44 then .comma else if c=59 then .semi else if c=46 then .dot else .bang
def I8 (s:ByteArray):Option (Sg×Nat):=
 if FE (Dw s 0) then (if B4 DK s≤6 then some (Jn (s.extract 0 (B4 DK s)),B4 DK s) else none)
 else if FF (Dw s 0) then some (.var (s.extract 0 (1+B4 CW (s.extract 1 (min 2 s.size)))),1+B4 CW (s.extract 1 (min 2 s.size)))
 else if CW (Dw s 0) then (if B4 CW s≤2 then some (.int (s.extract 0 (B4 CW s)),B4 CW s) else none)
 else if KU (Dw s 0) then some (Xx (Dw s 0),1)
 else if E5 s then some (.arrow,2) else none
theorem SM {s:ByteArray} {n:Nat} {i:Nat} (hn:n≤s.size) (hi:i<n):Dw (s.extract 0 n) i=Dw s i:=by
 have h1:i<(s.extract 0 n).size:=by rw [Aw];omega
 have h2:i<s.size:=by omega
 unfold Dw;rw [dif_pos h1,dif_pos h2,ByteArray.getElem_extract];simp
theorem Iz {s:ByteArray} (h0:0<s.size) {b:UInt8} (h:Dw s 0=b.toNat):s.extract 0 1=⟨#[b]⟩:=by
 have e:(s.extract 0 1).size=1:=by rw [Aw];omega
 apply ByteArray.ext_getElem
 ·rw [e];rfl
 ·intro i h1 h2;have hi:i=0:=by omega
  subst hi;rw [ByteArray.getElem_extract];have h3:=Lm h0;rw [h] at h3;have h4:(s[0]).toNat=b.toNat:=by omega
  have h5:s[0]=b:=UInt8.toNat_inj.1 h4;show s[0+0]=b;exact h5
theorem UU {s:ByteArray} (h0:0<s.size) (h:KU (Dw s 0)=true):BF (Xx (Dw s 0))=s.extract 0 1∧AW (Xx (Dw s 0))=s.extract 0 1:=by
 simp only [KU,Cw,beq_iff_eq] at h;rcases h with ((((h | h) | h) | h) | h) | h
 ·rw [Iz h0 (b:=40) h,h];exact ⟨rfl,rfl⟩
 ·rw [Iz h0 (b:=41) h,h];exact ⟨rfl,rfl⟩
 ·rw [Iz h0 (b:=44) h,h];exact ⟨rfl,rfl⟩
 ·rw [Iz h0 (b:=59) h,h];exact ⟨rfl,rfl⟩
 ·rw [Iz h0 (b:=46) h,h];exact ⟨rfl,rfl⟩
 ·rw [Iz h0 (b:=33) h,h];exact ⟨rfl,rfl⟩
theorem TX (s:ByteArray):BF (Jn s)=s∧AW (Jn s)=FT s:=by
 unfold Jn FT;by_cases h1:(s.toList == [100,111,109])=true
 ·rw [if_pos h1,if_pos (.inl h1),N9.1 h1];exact ⟨rfl,rfl⟩
 ·rw [if_neg h1];by_cases h2:(s.toList == [114,101,108])=true
  ·rw [if_pos h2,if_pos (.inr h2),N9.1 h2];exact ⟨rfl,rfl⟩
  ·rw [if_neg h2,if_neg (fun h=>h.elim h1 h2)];exact ⟨rfl,rfl⟩
theorem VC {s:ByteArray} (h0:0<s.size):(I8 s).map (fun p=>(AW p.1,p.2))=Nq s∧∀ g n,I8 s=some (g,n)→BF g=s.extract 0 n:=by
 unfold I8 Nq;split
 ·split
  ·refine ⟨by simp only [A4];rw [(TX _).2],fun g n h=>?_⟩;cases h;exact (TX _).1
  ·exact ⟨rfl,fun g n h=>by cases h⟩
 ·split
  ·exact ⟨rfl,fun g n h=>by cases h;rfl⟩
  ·split
   ·split
    ·exact ⟨rfl,fun g n h=>by cases h;rfl⟩
    ·exact ⟨rfl,fun g n h=>by cases h⟩
   ·split
    ·rename_i hm;refine ⟨by simp only [A4];rw [(UU h0 hm).2],fun g n h=>?_⟩;cases h;exact (UU h0 hm).1
    ·split
     ·rename_i ha;refine ⟨rfl,fun g n h=>?_⟩;cases h;unfold E5 at ha;simp only [Ao] at ha;exact (N9.1 ha.2).symm
     ·exact ⟨rfl,fun g n h=>by cases h⟩
def QD:Sg→Prop
 | .name s=>FE (Dw s 0)=true∧1≤s.size∧s.size≤6
 | .var s=>FF (Dw s 0)=true∧1≤s.size∧s.size≤2
 | .int s=>(∀ i,i<s.size→CW (Dw s i)=true)∧1≤s.size∧s.size≤2
 | .fin=>False
 | _=>True
theorem Rm {p:Int→Bool} {s:ByteArray} {i k j:Nat} (h1:i≤j) (h2:j<DG p s i k):p (Dw s j)=true:=by
 induction k generalizing i with
 | zero=>simp [DG] at h2;omega
 | succ k ih=>
  simp only [DG] at h2;split at h2
  ·rename_i hp;rcases Nat.eq_or_lt_of_le h1 with rfl | h1
   ·exact hp
   ·exact ih h1 h2
  ·omega
theorem jV {s:ByteArray} (h0:0<s.size) {g:Sg} {n:Nat} (h:I8 s=some (g,n)):QD g:=by
 unfold I8 at h;split at h
 ·rename_i hl;split at h
  ·rename_i h6;cases h;have hp:=GP (p:=DK) h0 (by unfold DK;rw [hl];rfl);have hle:=FI DK s;unfold Jn;split
   ·trivial
   ·split
    ·trivial
    ·refine ⟨by rw [SM hle (by omega)];exact hl,?_,?_⟩ <;> (rw [Aw];omega)
  ·cases h
 ·split at h
  ·rename_i hc;cases h;have hle:=FI CW (s.extract 1 (min 2 s.size));rw [Aw] at hle;refine ⟨by rw [SM (by omega) (by omega)];exact hc,?_,?_⟩ <;> (rw [Aw];omega)
  ·split at h
   ·rename_i hd;split at h
    ·rename_i h2;cases h;have hp:=GP (p:=CW) h0 hd;have hle:=FI CW s;refine ⟨fun i hi=>?_,?_,?_⟩
     ·rw [Aw] at hi;rw [SM hle (by omega)];exact Rm (i:=0) (k:=s.size) (by omega) (show i<B4 CW s by omega)
     ·rw [Aw];omega
     ·rw [Aw];omega
    ·cases h
   ·split at h
    ·cases h;unfold Xx;repeat' split
     all_goals trivial
    ·split at h
     ·cases h;trivial
     ·cases h
def FN:Nat→ByteArray→Nat→(List Tn×Nat) ⊕ Nat
 | 0,_,l=>.inl ([],l)
 | k+1,s,l=>
  if s.size=0 then .inl ([],l)
  else if Dw s 0=10 then FN k (s.extract 1 s.size) (l+1)
  else if Dw s 0=32∨Dw s 0=9 then FN k (s.extract 1 s.size) l
  else if Dw s 0=37 then FN k (s.extract (B4 Gl s) s.size) l
  else match I8 s with
   | none=>.inr l
   | some (g,n)=>match FN k (s.extract n s.size) l with
    | .inl (ts,m)=>.inl (⟨g,l⟩ :: ts,m)
    | .inr m=>.inr m
def Z9:(List Tn×Nat) ⊕ Nat→(List Tk×Nat) ⊕ Nat
 | .inl (ts,m)=>.inl (ts.map Vk,m)
 | .inr m=>.inr m
theorem Vw (k:Nat) (s:ByteArray) (l:Nat):FQ k s l=Z9 (FN k s l):=by
 induction k generalizing s l with
 | zero=>rfl
 | succ k ih=>
  simp only [FQ,FN];split
  ·rfl
  ·rename_i hz;have h0:0<s.size:=(by omega);split
   ·exact ih ..
   ·split
    ·exact ih ..
    ·split
     ·exact ih ..
     ·obtain ⟨h1,h2⟩:=VC h0;cases hc:I8 s with
      | none=>rw [hc] at h1;rw [←h1];rfl
      | some p=>
       obtain ⟨g,n⟩:=p;rw [hc] at h1;rw [←h1];simp only [A4];rw [ih];cases FN k (s.extract n s.size) l with
       | inl q=>
        simp only [Z9,A0,Vk];rw [h2 g n hc]
       | inr q=>rfl
theorem Of {k:Nat} {s:ByteArray} {l:Nat} {ts:List Tn} {m:Nat} (h:FN k s l=.inl (ts,m)):∀ t∈ts,QD t.g:=by
 induction k generalizing s l ts m with
 | zero=>cases h;intro t ht;cases ht
 | succ k ih=>
  simp only [FN] at h;split at h
  ·cases h;intro t ht;cases ht
  ·rename_i hz;split at h
   ·exact ih h
   ·split at h
    ·exact ih h
    ·split at h
     ·exact ih h
     ·split at h
      ·cases h
      ·rename_i g n hc;split at h
       ·rename_i us m' hr;cases h;intro t ht;rcases AJ.1 ht with rfl | ht
        ·exact jV (by omega) hc
        ·exact ih hr t ht
       ·cases h
def CY (ts:List Tn) (m:Nat):List Tn:=ts++[⟨.fin,m⟩]
theorem NX {k:Nat} {s:ByteArray} {l:Nat} {ts:List Tn} {m:Nat} (h:FN k s l=.inl (ts,m)):CX (CY ts m):=by
 refine ⟨ts,m,rfl,fun t ht=>?_⟩;have:=Of h t ht;cases hg:t.g <;> rw [hg] at this <;> first | rfl | exact this.elim
theorem O4 (s:ByteArray) (i:Nat):ltrG s i=Dw s i:=rfl
theorem J8 {s:ByteArray} (h:∀ i,i<s.size→CW (Dw s i)=true) {k:Nat} (hk:k≤s.size) (h2:s.size≤2):0≤Is s k∧Is s k<100:=by
 have hd:∀ i,i<s.size→48≤Dw s i∧Dw s i≤57:=fun i hi=>by
  have:=h i hi;simp only [CW,Ao,decide_eq_true_eq] at this;exact this
 match k,hk with
 | 0,_=>simp [Is]
 | 1,hk=>have:=hd 0 (by omega);simp only [Is,O4];omega
 | 2,hk=>have:=hd 0 (by omega);have:=hd 1 (by omega);simp only [Is,O4];omega
 | k+3,hk=>omega
def GF:Mean:=⟨[],[],[]⟩
def EE (s:ByteArray):Except J5 (List Tn×Mean):=
 if 1200<s.size then .error (4,0)
 else match FN s.size s 1 with
  | .inr l=>.error (5,l)
  | .inl (ts,m)=>match Dd (CY ts m).length (CY ts m) with
   | .error l=>.error (5,l)
   | .ok is=>match CN GF is with
    | .error f=>.error f
    | .ok me=>match Mz me with
     | .error f=>.error f
     | .ok _=>.ok (CY ts m,me)
theorem Qq {k:Nat} {s:ByteArray} {l:Nat} {ts:List Tn} {m:Nat} (h:FN k s l=.inl (ts,m)):ts.length≤s.size∧m≤l+s.size∧(∀ t∈ts,t.line≤l+s.size)∧∀ t∈ts,(BF t.g).size≤s.size:=by
 induction k generalizing s l ts m with
 | zero=>cases h;simp
 | succ k ih=>
  simp only [FN] at h;split at h
  ·cases h;simp
  ·rename_i hz;have h0:0<s.size:=(by omega);have goes:∀ (n l':Nat),1≤n→l'≤l+1→(n=0∨l'≤l+n)→FN k (s.extract n s.size) l' = .inl (ts,m)→ts.length≤s.size∧m≤l+s.size∧(∀ t∈ts,t.line≤l+s.size)∧∀ t∈ts,(BF t.g).size≤s.size:=by
    intro n l' hn hl' hln hr;obtain ⟨a1,a2,a3,a4⟩:=ih hr;rw [Aw] at a1 a2 a3 a4;rcases BL s.size n with hsn | hsn
    ·have e:min s.size s.size - n=0:=(by omega);rw [e] at a1 a2 a3 a4;exact ⟨by omega,by omega,fun t ht=>by have:=a3 t ht;omega,fun t ht=>by have:=a4 t ht;omega⟩
    ·exact ⟨by omega,by omega,fun t ht=>by have:=a3 t ht;omega,fun t ht=>by have:=a4 t ht;omega⟩
   split at h
   ·exact goes 1 (l+1) (by omega) (by omega) (by omega) h
   ·split at h
    ·exact goes 1 l (by omega) (by omega) (by omega) h
    ·split at h
     ·rename_i h37;have hp:1≤B4 Gl s:=GP h0 (by rw [h37];rfl);exact goes _ l hp (by omega) (by omega) h
     ·obtain ⟨c1,c2⟩:=VC h0;split at h
      ·cases h
      ·rename_i g n hc;rw [hc] at c1;obtain ⟨r1,r2⟩:=Np h0 c1.symm;split at h
       ·rename_i us m' hr;cases h;obtain ⟨a1,a2,a3,a4⟩:=ih hr;rw [Aw] at a1 a2 a3 a4;refine ⟨by simp;omega,by omega,fun t ht=>?_,fun t ht=>?_⟩
        ·rcases AJ.1 ht with rfl | ht
         ·simp
         ·have:=a3 t ht;omega
        ·rcases AJ.1 ht with rfl | ht
         ·show (BF g).size≤_;rw [c2 g n hc,Aw];omega
         ·have:=a4 t ht;omega
       ·cases h
theorem SY:(prog.info? 129).map (fun i=>(i.zero,i.size,i.bytes))=some (some (.agg #[.string ⟨#[]⟩,.string ⟨#[]⟩,.int .i64 0]),3,40):=by kernel_rfl
def Fb (ts:List Tk):List Value:=ts.flatMap fun t=>[.string t.kind,.string t.text,.int .i64 t.line]
theorem LK (a b:List Tk):Fb (a++b)=Fb a++Fb b:=by simp [Fb]
def VT (ts:List Tk):(List Tk×Nat) ⊕ Nat→(List Tk×Nat) ⊕ Nat
 | .inl (us,m)=>.inl (ts++us,m)
 | .inr m=>.inr m
theorem Rb {W:World} {a b c:Value}:∀ (j:Nat) (x:Value),[a,b,c][j]?=some x→(W.alloc (.cells #[a,b,c] 129)).cell? ((⟨W.heap.size,0,none⟩:Addr).add j)=some x:=by
 intro j x hx;rw [Addr.add_lit,Ad,(AM.new W #[a,b,c] 129).cell];match j with
 | 0=>simpa using hx
 | 1=>simpa using hx
 | 2=>simpa using hx
 | j+3=>simp at hx
def Rk:ByteArray:=⟨#[101,110,100]⟩
def nI (w:World) (r:(List Tk×Nat) ⊕ Nat) (e:Ending) (w':World):Prop:=match r with
 | .inl (ts,m)=>∃ v,e=.returned v∧w'.ownsRow w.heap.size 129 3 v (ts.length+1) (Fb (ts++[⟨Rk,⟨#[]⟩,m⟩]))
 | .inr l=>e=C2 5 l
theorem Vv {w:World} (s:ByteArray) (hs:s.size≤1000000):Calls prog 133 #[.string s] w fun e w'=>nI w (FQ s.size s 1) e w'∧AA [] w w':=by
 obtain ⟨i0,hi0,hz0,hz1,hz2⟩:=info_parts SY;generalize hR:FQ s.size s 1=R;go_in
 go_wp2_with fail
 go_loopw [0,3,4] (fun x y z wr=>∃ (k l:Nat) (s':ByteArray) (ts:List Tk),x=.string s'∧z=.int .i64 l∧s'.size≤k∧s'.size≤s.size∧ts.length+s'.size≤s.size∧l+s'.size≤s.size+1∧wr.ownsRow w.heap.size 129 3 y ts.length (Fb ts)∧AA [] w wr∧VT ts (FQ k s' l)=R) (fun x _ _ _=>match x with | .string t=>t.size | _=>0)
 case atStart=>exact ⟨s.size,1,s,[],rfl,rfl,AS _,AS _,by simp,by omega,World.ownsRow_nil ..,AA.refl _ _,by rw [←hR];cases FQ s.size s 1 <;> rfl⟩
 case round=>
  obtain ⟨k,l,s',ts,rfl,rfl,hk,hs',htl,hll,own,kr,hres⟩:=hrel;by_cases h0:0<s'.size
  ·obtain ⟨k,rfl⟩:∃ k',k=k' + 1:=⟨k - 1,by omega⟩;rw [FQ,if_neg (by omega)] at hres;have h0I:(0:Int)<s'.size:=(by omega);have h1I:(1:Int)≤s'.size:=(by omega);have hl:=Lm h0;clear hR;by_cases c10:Dw s' 0=10
   ·rw [if_pos c10] at hres;have e10:(Dw s' 0 == 10)=true:=by rw [c10];rfl
    have Hres:=AD hres;have hsz:(s'.extract 1 s'.size).size=s'.size - 1:=by rw [Aw];omega
    clear hres c10;go_wp2_with fail
    go_roundw
    ·exact ⟨k,l+1,s'.extract 1 s'.size,ts,rfl,by simp,by omega,by omega,by omega,by omega,own,kr,Hres.out⟩
    ·show (s'.extract 1 s'.size).size<s'.size;omega
   ·rw [if_neg c10] at hres;have e10:(Dw s' 0 == 10)=false:=by rw [beq_eq_false_iff_ne];exact c10
    clear c10;by_cases c32:Dw s' 0=32
    ·rw [if_pos (.inl c32)] at hres;have e32:(Dw s' 0 == 32)=true:=by rw [c32];rfl
     have Hres:=AD hres;have hsz:(s'.extract 1 s'.size).size=s'.size - 1:=by rw [Aw];omega
     clear hres c32;go_wp2_with fail
     go_roundw
     ·exact ⟨k,l,s'.extract 1 s'.size,ts,rfl,rfl,by omega,by omega,by omega,by omega,own,kr,Hres.out⟩
     ·show (s'.extract 1 s'.size).size<s'.size;omega
    ·have e32:(Dw s' 0 == 32)=false:=by rw [beq_eq_false_iff_ne];exact c32
     by_cases c9:Dw s' 0=9
     ·rw [if_pos (.inr c9)] at hres;have e9:(Dw s' 0 == 9)=true:=by rw [c9];rfl
      have Hres:=AD hres;have hsz:(s'.extract 1 s'.size).size=s'.size - 1:=by rw [Aw];omega
      clear hres c32 c9;go_wp2_with fail
      go_roundw
      ·exact ⟨k,l,s'.extract 1 s'.size,ts,rfl,rfl,by omega,by omega,by omega,by omega,own,kr,Hres.out⟩
      ·show (s'.extract 1 s'.size).size<s'.size;omega
     ·rw [if_neg (fun h=>h.elim c32 c9)] at hres;have e9:(Dw s' 0 == 9)=false:=by rw [beq_eq_false_iff_ne];exact c9
      clear c32 c9;by_cases c37:Dw s' 0=37
      ·rw [if_pos c37] at hres;have e37:(Dw s' 0 == 37)=true:=by rw [c37];rfl
       have hp1:1≤B4 Gl s':=GP h0 (by rw [c37];rfl);have hp2:=FI Gl s';have hx:=AD (fun w=>Tt (w:=w) s' (by omega));generalize B4 Gl s' = n at hres hp1 hp2 hx;have Hres:=AD hres;have hsz:(s'.extract n s'.size).size=s'.size - n:=by rw [Aw];omega
       have hnI:(n:Int)≤s'.size:=(by omega);clear hres c37;go_wp2_with fail
       refine (hx.out _).mono ?_;rintro e w1 ⟨rfl,rfl⟩;go_wp2_with fail
       go_roundw
       ·exact ⟨k,l,s'.extract n s'.size,ts,rfl,rfl,by omega,by omega,by omega,by omega,own,kr,Hres.out⟩
       ·show (s'.extract n s'.size).size<s'.size;omega
      ·rw [if_neg c37] at hres;have e37:(Dw s' 0 == 37)=false:=by rw [beq_eq_false_iff_ne];exact c37
       clear c37;have hcut:=AD (fun w=>Zl (w:=w) s' h0 (by omega) l);cases hc:Nq s' with
       | none=>
        rw [hc] at hres hcut;have Hres:=AD hres;clear hres;go_wp2_with fail
        refine (hcut.out _).mono ?_;rintro e w1 ⟨hce,rfl⟩;cases hce;refine ⟨rfl,?_,kr⟩;rw [←Hres.out];rfl
       | some r=>
        obtain ⟨kd,n⟩:=r;obtain ⟨hn1,hn2⟩:=Np h0 hc;rw [hc] at hres hcut;have hah:VT (ts++[⟨kd,s'.extract 0 n,l⟩]) (FQ k (s'.extract n s'.size) l)=R:=by
         rw [←hres]
         show _=VT ts (match FQ k (s'.extract n s'.size) l with
          | .inl (ts,m)=>.inl (⟨kd,s'.extract 0 n,l⟩ :: ts,m)
          | .inr m=>.inr m)
         cases FQ k (s'.extract n s'.size) l with
         | inl q=>simp [VT]
         | inr m=>rfl
        have Hah:=AD hah;have hsz:(s'.extract n s'.size).size=s'.size - n:=by rw [Aw];omega
        have hnI:(n:Int)≤s'.size:=(by omega);clear hres hah hc;obtain ⟨ay,cy,hy⟩:=Aj own;subst hy;have kB:=AA.alloc [] wr (.cells #[.string kd,.string (s'.extract 0 n),.int .i64 l] 129);have ownB:=AI own kB;have hone:=Rb (W:=wr) (a:=.string kd) (b:=.string (s'.extract 0 n)) (c:=.int .i64 l);have hszB:w.heap.size≤(wr.alloc (.cells #[.string kd,.string (s'.extract 0 n),.int .i64 l] 129)).heap.size:=by rw [AY];have:=kr.size;omega
        go_wp2_with fail
        refine (hcut.out _).mono ?_;rintro e w1 ⟨hce,rfl⟩;cases hce;go_wp2_with (at_builtin;refine wpList_append_own_at _ rfl _ _ 125 rfl w.heap.size 129 i0 (.agg #[.string ⟨#[]⟩,.string ⟨#[]⟩,.int .i64 0]) 3 40 underlying125 hi0 hz0 hz1 hz2 rfl (by decide) _ ts.length (Fb ts) rfl ownB ⟨w1.heap.size,0,none⟩ 1 1 [.string kd,.string (s'.extract 0 n),.int .i64 l] rfl (by simp) hone (by simp [Value.oneCell']) (by unfold maxLen;omega) (by omega) hszB ?_)
        intro v' W2 own2 grow2 nil2 at2;have k2:=grownBy_keeps' grow2 (Value.slice ay ts.length cy).ownBlock.toList (fun r e=>.inl (by simp [e]));have kf:AA [] w W2:=(kr.trans kB).trans_new k2 fun j hj=>.inr (Am own j (by simpa using hj)).1;go_wp2_with fail
        go_roundw
        ·exact ⟨k,l,s'.extract n s'.size,ts++[⟨kd,s'.extract 0 n,l⟩],rfl,rfl,by omega,by omega,by rw [AN,Ak];omega,by omega,by rw [LK,AN];exact own2,kf,Hah.out⟩
        ·show (s'.extract n s'.size).size<s'.size;omega
  ·have hz:s'.size=0:=(by omega);have hI:¬ (0:Int)<s'.size:=(by omega);have hsc:FQ k s' l=.inl ([],l):=by cases k <;> simp [FQ,hz]
   rw [hsc] at hres;simp only [VT,Be] at hres;have Hres:=AD hres;clear hres hsc hR;obtain ⟨ay,cy,hy⟩:=Aj own;subst hy;have kB:=AA.alloc [] wr (.cells #[.string ⟨#[101,110,100]⟩,.string ⟨#[]⟩,.int .i64 l] 129);have ownB:=AI own kB;have hone:=Rb (W:=wr) (a:=.string ⟨#[101,110,100]⟩) (b:=.string ⟨#[]⟩) (c:=.int .i64 l);have hszB:w.heap.size≤(wr.alloc (.cells #[.string ⟨#[101,110,100]⟩,.string ⟨#[]⟩,.int .i64 l] 129)).heap.size:=by rw [AY];have:=kr.size;omega
   go_wp2_with (at_builtin;refine wpList_append_own_at _ rfl _ _ 125 rfl w.heap.size 129 i0 (.agg #[.string ⟨#[]⟩,.string ⟨#[]⟩,.int .i64 0]) 3 40 underlying125 hi0 hz0 hz1 hz2 rfl (by decide) _ ts.length (Fb ts) rfl ownB ⟨wr.heap.size,0,none⟩ 1 1 [.string ⟨#[101,110,100]⟩,.string ⟨#[]⟩,.int .i64 l] rfl (by simp) hone (by simp [Value.oneCell']) (by unfold maxLen;omega) (by omega) hszB ?_)
   intro v' W2 own2 grow2 nil2 at2;have k2:=grownBy_keeps' grow2 (Value.slice ay ts.length cy).ownBlock.toList (fun r e=>.inl (by simp [e]));have kf:AA [] w W2:=(kr.trans kB).trans_new k2 fun j hj=>.inr (Am own j (by simpa using hj)).1;go_wp2_with fail
   go_ret
   rw [←Hres.out];exact ⟨⟨_,rfl,by rw [LK];exact own2⟩,kf⟩
end
section
def Jm (ts:List Tn) (a:Dz):Prop:=DE a.name.g=true∧a.name∈ts∧(∀ t∈a.terms,B1 t.g=true∧t∈ts)∧a.terms.length≤ts.length
def P6 (ts:List Tn):CO→Prop
 | .dom n z=>(DE n.g=true∧n∈ts)∧KV z.g=true∧z∈ts
 | .rel n cs=>(DE n.g=true∧n∈ts)∧(∀ c∈cs,DE c.g=true∧c∈ts)∧cs.length≤ts.length
 | .clause a ls=>Jm ts a∧(∀ l∈ls,Jm ts l.atom)∧ls.length≤ts.length
theorem Jm.mono {ts us:List Tn} {a:Dz} (h:Jm us a) (g:us <:+ ts):Jm ts a:=by
 have hs:=g.subset;exact ⟨h.1,hs h.2.1,fun t ht=>⟨(h.2.2.1 t ht).1,hs (h.2.2.1 t ht).2⟩,Ai h.2.2.2 g.length_le⟩
theorem P6.mono {ts us:List Tn} {i:CO} (h:P6 us i) (g:us <:+ ts):P6 ts i:=by
 have hs:=g.subset;cases i with
 | dom n z=>exact ⟨⟨h.1.1,hs h.1.2⟩,h.2.1,hs h.2.2⟩
 | rel n cs=>exact ⟨⟨h.1.1,hs h.1.2⟩,fun c hc=>⟨(h.2.1 c hc).1,hs (h.2.1 c hc).2⟩,Ai h.2.2 g.length_le⟩
 | clause a ls=>exact ⟨h.1.mono g,fun l hl=>(h.2.1 l hl).mono g,Ai h.2.2 g.length_le⟩
theorem bG {p:Sg→Bool} (hp:Ew p) {k:Nat} {ts us r:List Tn} (hk:ts.length≤k) (e:CX ts) (h:Em p k ts=.ok (r,us)):r.length+us.length<ts.length:=by
 induction k generalizing ts us r with
 | zero=>
  obtain ⟨t,us,rfl⟩:=e.cons;simp at hk
 | succ k ih=>
  simp only [Em] at h;split at h
  ·rename_i hc;have g1:=Cp Ea e hc;split at h
   ·cases h
   ·rename_i t us' ht;have g2:=(BP hp g1.2 ht).1;split at h
    ·cases h
    ·rename_i r' vs hr;cases h;have:=ih (by have:=g1.1;have:=g2.1;omega) g2.2 hr;have:=g1.1;have:=g2.1;rw [AV];omega
  ·split at h
   ·cases h
   ·rename_i t us' ht;cases h;have:=(BP Tw e ht).1.1;simpa using this
theorem Uc {p:Sg→Bool} (hp:Ew p) {ts us r:List Tn} (e:CX ts) (h:FD p ts=.ok (r,us)):r.length+us.length<ts.length:=by
 unfold FD at h;split at h
 ·cases h
 ·rename_i t1 us1 h1;have g1:=(BP KT e h1).1;split at h
  ·cases h
  ·rename_i t2 us2 h2;have g2:=(BP hp g1.2 h2).1;split at h
   ·cases h
   ·rename_i r3 us3 h3;cases h;have:=bG hp (AS _) g2.2 h3;have:=g1.1;have:=g2.1;rw [AV];omega
theorem TF {ts us:List Tn} {a:Dz} (e:CX ts) (h:Fu ts=.ok (a,us)):Jm ts a:=by
 obtain ⟨h1,_,h3,h4⟩:=eZ e h;refine ⟨h3,h4,h1,?_⟩;unfold Fu at h;split at h
 ·cases h
 ·rename_i t1 us1 hh;have g1:=(BP Dj e hh).1;split at h
  ·cases h
  ·rename_i r3 us3 h3;cases h;have:=Uc JI g1.2 h3;have:=g1.1;show r3.length≤_;omega
theorem cV {ts us:List Tn} {l:Dp} (e:CX ts) (h:N5 ts=.ok (l,us)):Jm ts l.atom:=by
 unfold N5 at h;split at h
 ·rename_i hc;have g1:=Cp Lr e hc;split at h
  ·cases h
  ·rename_i r3 us3 h3;cases h;exact (TF g1.2 h3).mono g1.3
 ·split at h
  ·cases h
  ·rename_i r3 us3 h3;cases h;exact TF e h3
theorem iQ {k:Nat} {ts us:List Tn} {r:List Dp} (hk:ts.length≤k) (e:CX ts) (h:Gr k ts=.ok (r,us)):(∀ l∈r,Jm ts l.atom)∧r.length+us.length<ts.length:=by
 induction k generalizing ts us r with
 | zero=>
  obtain ⟨t,us,rfl⟩:=e.cons;simp at hk
 | succ k ih=>
  simp only [Gr] at h;split at h
  ·rename_i hc;have g1:=Cp Ea e hc;split at h
   ·cases h
   ·rename_i t us' ht;have g2:=Gz g1.2 ht;split at h
    ·cases h
    ·rename_i r' vs hr;cases h;obtain ⟨h1,h2⟩:=ih (by have:=g1.1;have:=g2.1;omega) g2.2 hr;refine ⟨fun l hl=>?_,?_⟩
     ·rcases AJ.1 hl with rfl | hl
      ·exact (cV g1.2 ht).mono g1.3
      ·exact (h1 l hl).mono (g2.3.trans g1.3)
     ·have:=g1.1;have:=g2.1;rw [AV];omega
  ·split at h
   ·cases h
   ·rename_i t us' ht;cases h;have:=(BP K7 e ht).1.1;exact ⟨fun l hl=>(by cases hl),by simpa using this⟩
theorem kH {ts us:List Tn} {r:List Dp} (e:CX ts) (h:GN ts=.ok (r,us)):(∀ l∈r,Jm ts l.atom)∧r.length+us.length<ts.length:=by
 unfold GN at h;split at h
 ·rename_i hc;have g1:=Cp Kh e hc;split at h
  ·cases h
  ·rename_i t us' ht;have g2:=Gz g1.2 ht;split at h
   ·cases h
   ·rename_i r' vs hr;cases h;obtain ⟨h1,h2⟩:=iQ (AS _) g2.2 hr;refine ⟨fun l hl=>?_,?_⟩
    ·rcases AJ.1 hl with rfl | hl
     ·exact (cV g1.2 ht).mono g1.3
     ·exact (h1 l hl).mono (g2.3.trans g1.3)
    ·have:=g1.1;have:=g2.1;rw [AV];omega
 ·split at h
  ·cases h
  ·rename_i t us' ht;cases h;have:=(BP K7 e ht).1.1;exact ⟨fun l hl=>(by cases hl),by simpa using this⟩
theorem iV {ts us:List Tn} {i:CO} (e:CX ts) (h:GC ts=.ok (i,us)):P6 ts i:=by
 unfold GC at h;split at h
 ·rename_i hc;have g1:=Cp NA e hc;split at h
  ·cases h
  ·rename_i t2 us2 h2;obtain ⟨g2,e2,p2⟩:=BP Dj g1.2 h2;split at h
   ·cases h
   ·rename_i t3 us3 h3;obtain ⟨g3,e3,p3⟩:=BP Kx g2.2 h3;split at h
    ·cases h
    ·cases h;exact ⟨⟨p2,g1.3.subset (by rw [e2];simp)⟩,p3,(g2.3.trans g1.3).subset (by rw [e3];simp)⟩
 ·split at h
  ·rename_i hc;have g1:=Cp Mr e hc;split at h
   ·cases h
   ·rename_i t2 us2 h2;obtain ⟨g2,e2,p2⟩:=BP Dj g1.2 h2;split at h
    ·cases h
    ·rename_i t3 us3 h3;have g3:=Ue Dj g2.2 h3;have l3:=Uc Dj g2.2 h3;split at h
     ·cases h
     ·cases h;refine ⟨⟨p2,g1.3.subset (by rw [e2];simp)⟩,fun c hc=>⟨(g3.1 c hc).1,(g2.3.trans g1.3).subset (g3.1 c hc).2⟩,?_⟩;have:=g1.1;have:=g2.1;omega
  ·split at h
   ·cases h
   ·rename_i a us1 h1;have g1:=HZ e h1;split at h
    ·cases h
    ·rename_i b us2 h2;cases h;obtain ⟨q1,q2⟩:=kH g1.2 h2;refine ⟨TF e h1,fun l hl=>(q1 l hl).mono g1.3,?_⟩;have:=g1.1;omega
theorem Uq {k:Nat} {ts:List Tn} {is:List CO} (hk:ts.length≤k) (e:CX ts) (h:Dd k ts=.ok is):(∀ i∈is,P6 ts i)∧is.length≤ts.length:=by
 induction k generalizing ts is with
 | zero=>
  obtain ⟨t,us,rfl⟩:=e.cons;simp at hk
 | succ k ih=>
  simp only [Dd] at h;split at h
  ·cases h;exact ⟨fun i hi=>(by cases hi),by simp⟩
  ·split at h
   ·cases h
   ·rename_i i us hi;have g1:=PD e hi;split at h
    ·cases h
    ·rename_i r hr;cases h;obtain ⟨h1,h2⟩:=ih (by have:=g1.1;omega) g1.2 hr;refine ⟨fun j hj=>?_,?_⟩
     ·rcases AJ.1 hj with rfl | hj
      ·exact iV e hi
      ·exact (h1 j hj).mono g1.3
     ·have:=g1.1;rw [AV];omega
theorem Ro {m m':Mean} {is:List CO} {p:ByteArray→Prop} (hm:∀ r∈m.rels,p r.1) (hi:∀ i∈is,∀ n cs,i=.rel n cs→p (BF n.g)) (h:CN m is=.ok m'):∀ r∈m'.rels,p r.1:=by
 induction is generalizing m with
 | nil=>cases h;exact hm
 | cons i is ih=>
  simp only [CN] at h;split at h
  ·cases h
  ·rename_i m1 h1;refine ih ?_ (fun j hj=>hi j (by simp [hj])) h;cases i with
   | dom n z=>
    simp only [EB,addDom] at h1;split at h1
    ·cases h1
    ·split at h1
     ·cases h1
     ·split at h1
      ·cases h1
      ·cases h1;exact hm
   | rel n cs=>
    simp only [EB,addRel] at h1;split at h1
    ·cases h1
    ·split at h1
     ·cases h1
     ·split at h1
      ·cases h1
      ·cases h1;intro r hr;rcases AC.1 hr with q | q
       ·exact hm r q
       ·have e:r=_:=(by simpa using q);rw [e];exact hi _ (by simp) n cs rfl
   | clause a ls=>
    obtain ⟨x,_,_,_,h4⟩:=Js (by simpa [EB] using h1);rw [h4];exact hm
end
end Go.Proofs.YtgjomknpjigkhaaGreatDoor
