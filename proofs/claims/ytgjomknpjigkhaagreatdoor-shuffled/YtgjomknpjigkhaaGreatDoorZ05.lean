import Derived.Test.YtgjomknpjigkhaaGreatDoorZ02
import Derived.Shelf.Small.Strs
namespace Go.Proofs.YtgjomknpjigkhaaGreatDoor
open Go.Proofs.Tryz
set_option maxRecDepth 100000
set_option maxHeartbeats 4000000
section
open Go.RowKit
theorem AX (w:World) (o:Obj):(w.alloc o).heap.size=w.heap.size+1:=by simp
theorem Al {w:World} {base:Nat} {e:TypeId} {size:Nat} {v:Value} {n:Nat} {xs:List Value} (h:w.ownsRow base e size v n xs):∃ a c,v=.slice a n c:=by
 rcases h.2 with ⟨rfl,rfl⟩ | ⟨g,cap,cur,e,_⟩
 ·exact ⟨_,_,rfl⟩
 ·exact ⟨_,_,e⟩
theorem GF {w:World} {base:Nat} {e:TypeId} {size g n c:Nat} {xs:List Value} (h:w.ownsRow base e size (.slice (some ⟨g,0,none⟩) n c) n xs) {i:Nat} {x:Value} (hx:xs[i]?=some x):w.cell? ⟨g,i,none⟩=some x:=by
 have:=World.ownsRow.cells h (g:=g) rfl i x hx;rw [Addr.add_lit,Ag] at this;exact this
theorem As {w:World} {base:Nat} {e:TypeId} {size n:Nat} {v:Value} {xs:List Value} (h:w.ownsRow base e size v n xs):∀ i,v.ownBlock=some i→base≤i∧∃ cs t,w.heap[i]?=some (.cells cs t (0,0)):=by
 intro i hi;obtain ⟨_,⟨rfl,_⟩ | ⟨g,cap,cur,rfl,hb,hg,_⟩⟩:=h
 ·simp [Value.ownBlock] at hi
 ·simp only [Value.ownBlock,BD] at hi;subst hi;exact ⟨hb,_,_,hg⟩
end
section
inductive Sg where
 | dom | rel | lp | rp | comma | semi | dot | bang | arrow | fin
 | name (s:ByteArray)
 | var (s:ByteArray)
 | int (s:ByteArray)
structure Tn where
 g:Sg
 line:Nat
def C8:Sg→Bool | .name _=>true | _=>false
def Bv:Sg→Bool | .var _=>true | .int _=>true | _=>false
def J6:Sg→Bool | .int _=>true | _=>false
def IV:Sg→Bool | .var _=>true | _=>false
def La:Sg→Bool | .dom=>true | _=>false
def Ms:Sg→Bool | .rel=>true | _=>false
def NW:Sg→Bool | .lp=>true | _=>false
def Uc:Sg→Bool | .rp=>true | _=>false
def G3:Sg→Bool | .comma=>true | _=>false
def Kg:Sg→Bool | .semi=>true | _=>false
def LZ:Sg→Bool | .dot=>true | _=>false
def SG:Sg→Bool | .bang=>true | _=>false
def MB:Sg→Bool | .arrow=>true | _=>false
def J7:Sg→Bool | .fin=>true | _=>false
def Ca (p:Sg→Bool):List Tn→Except Nat (Tn×List Tn)
 | []=>.error 0
 | t :: ts=>if p t.g then .ok (t,ts) else .error t.line
def E1 (p:Sg→Bool):List Tn→Bool
 | []=>false
 | t :: _=>p t.g
structure Dx where
 name:Tn
 terms:List Tn
structure Dn where
 atom:Dx
 no:Bool
inductive CM where
 | dom (name size:Tn)
 | rel (name:Tn) (cols:List Tn)
 | clause (head:Dx) (lits:List Dn)
def Ef (p:Sg→Bool):Nat→List Tn→Except Nat (List Tn×List Tn)
 | 0,ts=>.ok ([],ts)
 | k+1,ts=>
  if E1 G3 ts then
   match Ca p ts.tail with
   | .error l=>.error l
   | .ok (t,us)=>match Ef p k us with
    | .error l=>.error l
    | .ok (r,vs)=>.ok (t :: r,vs)
  else match Ca Uc ts with
   | .error l=>.error l
   | .ok (_,us)=>.ok ([],us)
def E4 (p:Sg→Bool) (ts:List Tn):Except Nat (List Tn×List Tn):=
 match Ca NW ts with
 | .error l=>.error l
 | .ok (_,us)=>match Ca p us with
  | .error l=>.error l
  | .ok (t,vs)=>match Ef p vs.length vs with
   | .error l=>.error l
   | .ok (r,xs)=>.ok (t :: r,xs)
def Fj (ts:List Tn):Except Nat (Dx×List Tn):=
 match Ca C8 ts with
 | .error l=>.error l
 | .ok (n,us)=>match E4 Bv us with
  | .error l=>.error l
  | .ok (r,vs)=>.ok (⟨n,r⟩,vs)
def Nv (ts:List Tn):Except Nat (Dn×List Tn):=
 if E1 SG ts then
  match Fj ts.tail with
  | .error l=>.error l
  | .ok (a,us)=>.ok (⟨a,true⟩,us)
 else match Fj ts with
  | .error l=>.error l
  | .ok (a,us)=>.ok (⟨a,false⟩,us)
def Gh:Nat→List Tn→Except Nat (List Dn×List Tn)
 | 0,ts=>.ok ([],ts)
 | k+1,ts=>
  if E1 G3 ts then
   match Nv ts.tail with
   | .error l=>.error l
   | .ok (t,us)=>match Gh k us with
    | .error l=>.error l
    | .ok (r,vs)=>.ok (t :: r,vs)
  else match Ca LZ ts with
   | .error l=>.error l
   | .ok (_,us)=>.ok ([],us)
def GB (ts:List Tn):Except Nat (List Dn×List Tn):=
 if E1 MB ts then
  match Nv ts.tail with
  | .error l=>.error l
  | .ok (t,us)=>match Gh us.length us with
   | .error l=>.error l
   | .ok (r,vs)=>.ok (t :: r,vs)
 else match Ca LZ ts with
  | .error l=>.error l
  | .ok (_,us)=>.ok ([],us)
def Fx (ts:List Tn):Except Nat (CM×List Tn):=
 if E1 La ts then
  match Ca C8 ts.tail with
  | .error l=>.error l
  | .ok (n,us)=>match Ca J6 us with
   | .error l=>.error l
   | .ok (i,vs)=>match Ca Kg vs with
    | .error l=>.error l
    | .ok (_,xs)=>.ok (.dom n i,xs)
 else if E1 Ms ts then
  match Ca C8 ts.tail with
  | .error l=>.error l
  | .ok (n,us)=>match E4 C8 us with
   | .error l=>.error l
   | .ok (c,vs)=>match Ca Kg vs with
    | .error l=>.error l
    | .ok (_,xs)=>.ok (.rel n c,xs)
 else match Fj ts with
  | .error l=>.error l
  | .ok (a,us)=>match GB us with
   | .error l=>.error l
   | .ok (b,vs)=>.ok (.clause a b,vs)
def DO:Nat→List Tn→Except Nat (List CM)
 | 0,_=>.ok []
 | k+1,ts=>
  if E1 J7 ts then .ok []
  else match Fx ts with
   | .error l=>.error l
   | .ok (i,us)=>match DO k us with
    | .error l=>.error l
    | .ok r=>.ok (i :: r)
def CV (ts:List Tn):Prop:=∃ us l,ts=us++[⟨.fin,l⟩]∧∀ t∈us,J7 t.g=false
theorem CV.cons {ts:List Tn} (h:CV ts):∃ t us,ts=t :: us:=by
 obtain ⟨us,l,rfl,_⟩:=h;cases us with
 | nil=>exact ⟨_,_,rfl⟩
 | cons t us=>exact ⟨t,us++[⟨.fin,l⟩],rfl⟩
theorem CV.tail {t:Tn} {ts:List Tn} (h:CV (t :: ts)) (hf:J7 t.g=false):CV ts:=by
 obtain ⟨us,l,he,hn⟩:=h;cases us with
 | nil=>simp at he;rw [he.1] at hf;cases hf
 | cons u us=>
  simp at he;exact ⟨us,l,he.2,fun t ht=>hn t (by simp [ht])⟩
def Em (p:Sg→Bool):Prop:=p .fin=false
theorem Em.no {p:Sg→Bool} (h:Em p) {g:Sg} (hg:p g=true):J7 g=false:=by
 cases g <;> first | rfl | (rw [h] at hg;cases hg)
structure IJ (ts us:List Tn):Prop where
 less:us.length<ts.length
 ended:CV us
 suf:us <:+ ts
theorem IJ.trans {a b c:List Tn} (h:IJ a b) (k:IJ b c):IJ a c:=⟨by have:=h.1;have:=k.1;omega,k.2,k.3.trans h.3⟩
theorem BK {p:Sg→Bool} (hp:Em p) {ts us:List Tn} {t:Tn} (e:CV ts) (h:Ca p ts=.ok (t,us)):IJ ts us∧ts=t :: us∧p t.g=true:=by
 cases ts with
 | nil=>cases h
 | cons x ts=>
  simp only [Ca] at h;split at h
  ·rename_i hx;cases h;exact ⟨⟨by simp,e.tail (hp.no hx),List.suffix_cons _ _⟩,rfl,hx⟩
  ·cases h
theorem Cm {p:Sg→Bool} (hp:Em p) {ts:List Tn} (e:CV ts) (h:E1 p ts=true):IJ ts ts.tail:=by
 cases ts with
 | nil=>cases h
 | cons x ts=>exact ⟨by simp,e.tail (hp.no h),List.suffix_cons _ _⟩
theorem Vg {p:Sg→Bool} {ts:List Tn} (h:E1 p ts=true):∃ t,ts=t :: ts.tail∧p t.g=true∧Ca p ts=.ok (t,ts.tail):=by
 cases ts with
 | nil=>cases h
 | cons x ts=>
  have hx:p x.g=true:=h;exact ⟨x,rfl,h,by simp only [Ca];rw [if_pos hx];rfl⟩
theorem ES:Em G3:=rfl
theorem Tc:Em Uc:=rfl
theorem J4:Em NW:=rfl
theorem Dg:Em C8:=rfl
theorem I6:Em Bv:=rfl
theorem Kh:Em J6:=rfl
theorem OX:Em Kg:=rfl
theorem Kj:Em LZ:=rfl
theorem Le:Em SG:=rfl
theorem KM:Em MB:=rfl
theorem My:Em La:=rfl
theorem Mi:Em Ms:=rfl
theorem Vr {p:Sg→Bool} (hp:Em p) {k:Nat} {ts us:List Tn} {r:List Tn} (hk:ts.length≤k) (e:CV ts) (h:Ef p k ts=.ok (r,us)):IJ ts us:=by
 induction k generalizing ts us r with
 | zero=>
  obtain ⟨t,us,rfl⟩:=e.cons;simp at hk
 | succ k ih=>
  simp only [Ef] at h;split at h
  ·rename_i hc;have g1:=Cm ES e hc;split at h
   ·cases h
   ·rename_i t us' ht;have g2:=(BK hp g1.2 ht).1;split at h
    ·cases h
    ·rename_i r' vs hr;cases h;exact (g1.trans g2).trans (ih (by have:=g1.1;have:=g2.1;omega) g2.2 hr)
  ·split at h
   ·cases h
   ·rename_i t us' ht;cases h;exact (BK Tc e ht).1
theorem LY {p:Sg→Bool} (hp:Em p) {ts us:List Tn} {r:List Tn} (e:CV ts) (h:E4 p ts=.ok (r,us)):IJ ts us:=by
 unfold E4 at h;split at h
 ·cases h
 ·rename_i t1 us1 h1;have g1:=(BK J4 e h1).1;split at h
  ·cases h
  ·rename_i t2 us2 h2;have g2:=(BK hp g1.2 h2).1;split at h
   ·cases h
   ·rename_i r3 us3 h3;cases h;exact (g1.trans g2).trans (Vr hp (AQ _) g2.2 h3)
theorem G6 {ts us:List Tn} {a:Dx} (e:CV ts) (h:Fj ts=.ok (a,us)):IJ ts us:=by
 unfold Fj at h;split at h
 ·cases h
 ·rename_i t1 us1 h1;have g1:=(BK Dg e h1).1;split at h
  ·cases h
  ·rename_i r3 us3 h3;cases h;exact g1.trans (LY I6 g1.2 h3)
theorem Gp {ts us:List Tn} {a:Dn} (e:CV ts) (h:Nv ts=.ok (a,us)):IJ ts us:=by
 unfold Nv at h;split at h
 ·rename_i hc;have g1:=Cm Le e hc;split at h
  ·cases h
  ·rename_i r3 us3 h3;cases h;exact g1.trans (G6 g1.2 h3)
 ·split at h
  ·cases h
  ·rename_i r3 us3 h3;cases h;exact G6 e h3
theorem WJ {k:Nat} {ts us:List Tn} {r:List Dn} (hk:ts.length≤k) (e:CV ts) (h:Gh k ts=.ok (r,us)):IJ ts us:=by
 induction k generalizing ts us r with
 | zero=>
  obtain ⟨t,us,rfl⟩:=e.cons;simp at hk
 | succ k ih=>
  simp only [Gh] at h;split at h
  ·rename_i hc;have g1:=Cm ES e hc;split at h
   ·cases h
   ·rename_i t us' ht;have g2:=Gp g1.2 ht;split at h
    ·cases h
    ·rename_i r' vs hr;cases h;exact (g1.trans g2).trans (ih (by have:=g1.1;have:=g2.1;omega) g2.2 hr)
  ·split at h
   ·cases h
   ·rename_i t us' ht;cases h;exact (BK Kj e ht).1
theorem Wv {ts us:List Tn} {r:List Dn} (e:CV ts) (h:GB ts=.ok (r,us)):IJ ts us:=by
 unfold GB at h;split at h
 ·rename_i hc;have g1:=Cm KM e hc;split at h
  ·cases h
  ·rename_i t us' ht;have g2:=Gp g1.2 ht;split at h
   ·cases h
   ·rename_i r' vs hr;cases h;exact (g1.trans g2).trans (WJ (AQ _) g2.2 hr)
 ·split at h
  ·cases h
  ·rename_i t us' ht;cases h;exact (BK Kj e ht).1
theorem O3 {ts us:List Tn} {i:CM} (e:CV ts) (h:Fx ts=.ok (i,us)):IJ ts us:=by
 unfold Fx at h;split at h
 ·rename_i hc;have g1:=Cm My e hc;split at h
  ·cases h
  ·rename_i t2 us2 h2;have g2:=(BK Dg g1.2 h2).1;split at h
   ·cases h
   ·rename_i t3 us3 h3;have g3:=(BK Kh g2.2 h3).1;split at h
    ·cases h
    ·rename_i t4 us4 h4;cases h;exact ((g1.trans g2).trans g3).trans (BK OX g3.2 h4).1
 ·split at h
  ·rename_i hc;have g1:=Cm Mi e hc;split at h
   ·cases h
   ·rename_i t2 us2 h2;have g2:=(BK Dg g1.2 h2).1;split at h
    ·cases h
    ·rename_i t3 us3 h3;have g3:=LY Dg g2.2 h3;split at h
     ·cases h
     ·rename_i t4 us4 h4;cases h;exact ((g1.trans g2).trans g3).trans (BK OX g3.2 h4).1
  ·split at h
   ·cases h
   ·rename_i a us1 h1;have g1:=G6 e h1;split at h
    ·cases h
    ·rename_i b us2 h2;cases h;exact g1.trans (Wv g1.2 h2)
def ltrG (s:ByteArray) (i:Nat):Int:=if h:i<s.size then (s[i].toNat:Int) else 0
def If (s:ByteArray):Nat→Int
 | 0=>0
 | k+1=>10 * If s k+(ltrG s k - 48)
def BB:Sg→ByteArray
 | .dom=>⟨#[100,111,109]⟩ | .rel=>⟨#[114,101,108]⟩ | .lp=>⟨#[40]⟩ | .rp=>⟨#[41]⟩ | .comma=>⟨#[44]⟩ | .semi=>⟨#[59]⟩
 | .dot=>⟨#[46]⟩ | .bang=>⟨#[33]⟩ | .arrow=>⟨#[58,45]⟩ | .fin=>⟨#[]⟩
 | .name s=>s | .var s=>s | .int s=>s
def Cp:Sg→Int
 | .int s=>If s s.size
 | _=>0
structure BN where
 isVar:Bool
 num:Int
structure BW where
 rel:Nat
 terms:List BN
structure Ac where
 head:BW
 lits:List (BW×Bool)
 line:Nat
structure Mean where
 doms:List (ByteArray×Int)
 rels:List (ByteArray×List Nat)
 clauses:List Ac
abbrev I0:=Nat×Nat
abbrev Ba:=List (ByteArray×Nat)
def CP {A:Type} (l:List (ByteArray×A)) (s:ByteArray):Option Nat:=l.findIdx? (fun p=>decide (p.1=s))
def Mean.dom (m:Mean) (s:ByteArray):Option Nat:=CP m.doms s
def Mean.rel (m:Mean) (s:ByteArray):Option Nat:=CP m.rels s
def Mean.taken (m:Mean) (s:ByteArray):Bool:=(m.dom s).isSome || (m.rel s).isSome
def Mean.size (m:Mean) (d:Nat):Int:=(m.doms[d]?.map (·.2)).getD 0
def Mean.cols (m:Mean) (r:Nat):List Nat:=(m.rels[r]?.map (·.2)).getD []
def addDom (m:Mean) (n i:Tn):Except I0 Mean:=
 if m.doms.length=4 then .error (6,n.line)
 else if m.taken (BB n.g) then .error (7,n.line)
 else if Cp i.g<1∨8<Cp i.g then .error (9,i.line)
 else .ok { m with doms:=m.doms++[(BB n.g,Cp i.g)] }
def IA (m:Mean):Nat→List Tn→Except I0 (List Nat)
 | _,[]=>.ok []
 | k,c :: cs=>
  if k=3 then .error (6,c.line)
  else match m.dom (BB c.g) with
   | none=>.error (8,c.line)
   | some d=>match IA m (k+1) cs with
    | .error f=>.error f
    | .ok ds=>.ok (d :: ds)
def addRel (m:Mean) (n:Tn) (cs:List Tn):Except I0 Mean:=
 if m.rels.length=6 then .error (6,n.line)
 else if m.taken (BB n.g) then .error (7,n.line)
 else match IA m 0 cs with
  | .error f=>.error f
  | .ok ds=>.ok { m with rels:=m.rels++[(BB n.g,ds)] }
def Gu (m:Mean) (sc:Ba) (t:Tn) (d:Nat):Except I0 (BN×Ba):=
 if IV t.g then
  match CP sc (BB t.g) with
  | some p=>if (sc[p]?.map (·.2)).getD 0≠d then .error (11,t.line) else .ok (⟨true,p⟩,sc)
  | none=>if sc.length=4 then .error (6,t.line) else .ok (⟨true,sc.length⟩,sc++[(BB t.g,d)])
 else if m.size d≤Cp t.g then .error (9,t.line) else .ok (⟨false,Cp t.g⟩,sc)
def D9 (m:Mean) (sc:Ba):List Tn→List Nat→Except I0 (List BN×Ba)
 | t :: ts,d :: ds=>match Gu m sc t d with
  | .error f=>.error f
  | .ok (x,sc')=>match D9 m sc' ts ds with
   | .error f=>.error f
   | .ok (xs,sc'')=>.ok (x :: xs,sc'')
 | _,_=>.ok ([],sc)
def FR (m:Mean) (sc:Ba) (a:Dx):Except I0 (BW×Ba):=
 match m.rel (BB a.name.g) with
 | none=>.error (8,a.name.line)
 | some r=>if a.terms.length≠(m.cols r).length then .error (10,a.name.line)
  else match D9 m sc a.terms (m.cols r) with
   | .error f=>.error f
   | .ok (xs,sc')=>.ok (⟨r,xs⟩,sc')
def Eg (m:Mean) (sc:Ba):Nat→List Dn→Except I0 (List (BW×Bool)×Ba)
 | _,[]=>.ok ([],sc)
 | k,l :: ls=>
  if k=4 then .error (6,l.atom.name.line)
  else match FR m sc l.atom with
   | .error f=>.error f
   | .ok (x,sc')=>match Eg m sc' (k+1) ls with
    | .error f=>.error f
    | .ok (xs,sc'')=>.ok ((x,l.no) :: xs,sc'')
def addClause (m:Mean) (h:Dx) (ls:List Dn):Except I0 Mean:=
 if m.clauses.length=52 then .error (6,h.name.line)
 else match FR m [] h with
  | .error f=>.error f
  | .ok (x,sc)=>match Eg m sc 0 ls with
   | .error f=>.error f
   | .ok (xs,_)=>.ok { m with clauses:=m.clauses++[⟨x,xs,h.name.line⟩] }
def D0 (m:Mean):CM→Except I0 Mean
 | .dom n i=>addDom m n i
 | .rel n cs=>addRel m n cs
 | .clause h ls=>addClause m h ls
def Bh (m:Mean):List CM→Except I0 Mean
 | []=>.ok m
 | i :: is=>match D0 m i with
  | .error f=>.error f
  | .ok m'=>Bh m' is
end
section
open Go.RowKit
def Dw (s:ByteArray) (i:Nat):Int:=if h:i<s.size then (s[i].toNat:Int) else 0
theorem LX {s:ByteArray} {i:Nat} (h:i<s.size):((s[i]'h).toNat:Int)=Dw s i:=by unfold Dw;rw [dif_pos h]
def DC (p:Int→Bool) (s:ByteArray) (i:Nat):Nat→Nat
 | 0=>i
 | k+1=>if p (Dw s i) then DC p s (i+1) k else i
def B4 (p:Int→Bool) (s:ByteArray):Nat:=DC p s 0 s.size
theorem NG (p:Int→Bool) (s:ByteArray) (i k:Nat):i≤DC p s i k∧DC p s i k≤i+k:=by
 induction k generalizing i with
 | zero=>simp [DC]
 | succ k ih=>
  simp only [DC];split
  ·have:=ih (i+1);omega
  ·omega
theorem FB (p:Int→Bool) (s:ByteArray):B4 p s≤s.size:=by have:=NG p s 0 s.size;unfold B4;omega
def Gc (x:Int):Bool:=!(x == 10)
def DF (x:Int):Bool:=E5 x || CU x
theorem Rz {w:World} (x:Int):Calls prog 196 #[.int .u8 x] w fun e w'=>e=.returned (.bool (Gc x))∧w' = w:=by
 have hs:(x != 10)=Gc x:=rfl;go_in
 go_wp2_with fail
 go_ret
 exact ⟨by show Ending.returned (.bool (x != 10))=_;rw [hs],rfl⟩
theorem SF {w:World} (x:Int):Calls prog 286 #[.int .u8 x] w fun e w'=>e=.returned (.bool (DF x))∧w' = w:=by
 have hl:=AD (fun w=>Kx (w:=w) x);have hd:=AD (fun w=>IW (w:=w) x);have hw:DF x=(E5 x || CU x):=rfl;have Hw:=AD hw;clear hw;cases h1:E5 x with
 | true=>
  rw [h1] at hl Hw;go_in
  go_wp2_with fail
  refine (hl.out _).mono ?_;rintro e w1 ⟨rfl,rfl⟩;go_wp2_with fail
  go_ret
  exact ⟨by rw [Hw.out];rfl,rfl⟩
 | false=>
  rw [h1] at hl Hw;go_in
  go_wp2_with fail
  refine (hl.out _).mono ?_;rintro e w1 ⟨rfl,rfl⟩;go_wp2_with fail
  refine (hd.out _).mono ?_;rintro e w1 ⟨rfl,rfl⟩;go_wp2_with fail
  go_ret
  exact ⟨by rw [Hw.out];rfl,rfl⟩
theorem OQ {w:World} (s:ByteArray) (hs:s.size≤10000000) :
  Calls prog 195 #[.string s,.func (.func 245) #[] #[]] w fun e w'=>e=.returned (.int .i64 (B4 CU s))∧w' = w:=by
 have Hf:=AD (fun (w:World) (x:Int)=>IW (w:=w) x);go_in
 go_wp2_with fail
 go_loopw [8] (fun y wr=>∃ i:Nat,y=.int .i64 i∧i≤s.size∧B4 CU s=DC CU s i (s.size - i)∧wr=w) (fun y _=>((s.size:Int) - intOf y).toNat)
 case atStart=>exact ⟨0,rfl,by omega,rfl,rfl⟩
 case round=>
  obtain ⟨i,rfl,hi,hsp,rfl⟩:=hrel;by_cases hil:i<s.size
  ·have hiI:(i:Int)<s.size:=(by omega);rw [show s.size - i=(s.size - (i+1))+1 by omega,DC] at hsp;have Hsp:=AD hsp;clear hsp;have hl:=LX hil;go_wp2_with fail
   refine (Hf.out _ _).mono ?_;rintro e w1 ⟨rfl,rfl⟩;cases hp:CU (Dw s i) with
   | true=>
    go_wp2_with fail
    go_roundw
    ·exact ⟨i+1,by simp,by omega,by rw [Hsp.out,if_pos hp],trivial⟩
    ·simp only [intOf];omega
   | false=>
    go_wp2_with fail
    go_ret
    exact ⟨by show Ending.returned (.int .i64 ((i:Nat):Int))=_;rw [Hsp.out,if_neg (by simp [hp])],rfl⟩
  ·have hiI:¬ (i:Int)<s.size:=(by omega);have e:i=s.size:=(by omega);rw [e,Nat.sub_self,DC] at hsp;have Hsp:=AD hsp;clear hsp e;go_wp2_with fail
   go_ret
   exact ⟨by show Ending.returned (.int .i64 ((s.size:Nat):Int))=_;rw [Hsp.out],rfl⟩
theorem NF {w:World} (s:ByteArray) (hs:s.size≤10000000) :
  Calls prog 195 #[.string s,.func (.func 286) #[] #[]] w fun e w'=>e=.returned (.int .i64 (B4 DF s))∧w' = w:=by
 have Hf:=AD (fun (w:World) (x:Int)=>SF (w:=w) x);go_in
 go_wp2_with fail
 go_loopw [8] (fun y wr=>∃ i:Nat,y=.int .i64 i∧i≤s.size∧B4 DF s=DC DF s i (s.size - i)∧wr=w) (fun y _=>((s.size:Int) - intOf y).toNat)
 case atStart=>exact ⟨0,rfl,by omega,rfl,rfl⟩
 case round=>
  obtain ⟨i,rfl,hi,hsp,rfl⟩:=hrel;by_cases hil:i<s.size
  ·have hiI:(i:Int)<s.size:=(by omega);rw [show s.size - i=(s.size - (i+1))+1 by omega,DC] at hsp;have Hsp:=AD hsp;clear hsp;have hl:=LX hil;go_wp2_with fail
   refine (Hf.out _ _).mono ?_;rintro e w1 ⟨rfl,rfl⟩;cases hp:DF (Dw s i) with
   | true=>
    go_wp2_with fail
    go_roundw
    ·exact ⟨i+1,by simp,by omega,by rw [Hsp.out,if_pos hp],trivial⟩
    ·simp only [intOf];omega
   | false=>
    go_wp2_with fail
    go_ret
    exact ⟨by show Ending.returned (.int .i64 ((i:Nat):Int))=_;rw [Hsp.out,if_neg (by simp [hp])],rfl⟩
  ·have hiI:¬ (i:Int)<s.size:=(by omega);have e:i=s.size:=(by omega);rw [e,Nat.sub_self,DC] at hsp;have Hsp:=AD hsp;clear hsp e;go_wp2_with fail
   go_ret
   exact ⟨by show Ending.returned (.int .i64 ((s.size:Nat):Int))=_;rw [Hsp.out],rfl⟩
theorem TW {w:World} (s:ByteArray) (hs:s.size≤10000000) :
  Calls prog 195 #[.string s,.func (.func 196) #[] #[]] w fun e w'=>e=.returned (.int .i64 (B4 Gc s))∧w' = w:=by
 have Hf:=AD (fun (w:World) (x:Int)=>Rz (w:=w) x);go_in
 go_wp2_with fail
 go_loopw [8] (fun y wr=>∃ i:Nat,y=.int .i64 i∧i≤s.size∧B4 Gc s=DC Gc s i (s.size - i)∧wr=w) (fun y _=>((s.size:Int) - intOf y).toNat)
 case atStart=>exact ⟨0,rfl,by omega,rfl,rfl⟩
 case round=>
  obtain ⟨i,rfl,hi,hsp,rfl⟩:=hrel;by_cases hil:i<s.size
  ·have hiI:(i:Int)<s.size:=(by omega);rw [show s.size - i=(s.size - (i+1))+1 by omega,DC] at hsp;have Hsp:=AD hsp;clear hsp;have hl:=LX hil;go_wp2_with fail
   refine (Hf.out _ _).mono ?_;rintro e w1 ⟨rfl,rfl⟩;cases hp:Gc (Dw s i) with
   | true=>
    go_wp2_with fail
    go_roundw
    ·exact ⟨i+1,by simp,by omega,by rw [Hsp.out,if_pos hp],trivial⟩
    ·simp only [intOf];omega
   | false=>
    go_wp2_with fail
    go_ret
    exact ⟨by show Ending.returned (.int .i64 ((i:Nat):Int))=_;rw [Hsp.out,if_neg (by simp [hp])],rfl⟩
  ·have hiI:¬ (i:Int)<s.size:=(by omega);have e:i=s.size:=(by omega);rw [e,Nat.sub_self,DC] at hsp;have Hsp:=AD hsp;clear hsp e;go_wp2_with fail
   go_ret
   exact ⟨by show Ending.returned (.int .i64 ((s.size:Nat):Int))=_;rw [Hsp.out],rfl⟩
def Cx (c l:Int):Ending:=.panicked [{ v:=.iface 28 (.agg #[.int .i64 c,.int .i64 l]),recovered:=false }]
theorem Ek {w:World} (c l:Int):Calls prog 132 #[.int .i64 c,.int .i64 l] w fun e w'=>e=Cx c l∧w' = w:=by
 go_in
 go_wp2_with fail
 exact ⟨rfl,rfl,rfl⟩
theorem Jb {w:World} (a b l:Int) (h:¬ b<a):Calls prog 246 #[.int .i64 a,.int .i64 b,.int .i64 l] w fun e w'=>e=.returned (.tuple #[])∧w' = w:=by
 go_in
 go_wp2_with fail
 go_end0
 exact ⟨rfl,rfl⟩
theorem Ip {w:World} (a b l:Int) (h:b<a):Calls prog 246 #[.int .i64 a,.int .i64 b,.int .i64 l] w fun e w'=>e=Cx 5 l∧w' = w:=by
 have hg:=AD (fun w=>Ek (w:=w) 5 l);go_in
 go_wp2_with fail
 refine (hg.out _).mono ?_;rintro e w1 ⟨rfl,rfl⟩;exact ⟨rfl,rfl,rfl⟩
def RP:ByteArray:=⟨#[78,65,77,69]⟩
def FN (s:ByteArray):ByteArray:=if (s.toList == [100,111,109])=true∨(s.toList == [114,101,108])=true then s else RP
theorem Us {w:World} (s:ByteArray) (hs:s.size≤10000000) (l:Int) (h:6<B4 DF s):Calls prog 243 #[.string s,.int .i64 l] w fun e w'=>e=Cx 5 l∧w' = w:=by
 have h1:=AD (fun w=>NF (w:=w) s hs);have h2:=AD (fun w=>Ip (w:=w) (B4 DF s) 6 l (by omega));go_in
 go_wp2_with fail
 refine (h1.out _).mono ?_;rintro e w1 ⟨rfl,rfl⟩;go_wp2_with fail
 refine (h2.out _).mono ?_;rintro e w1 ⟨rfl,rfl⟩;exact ⟨rfl,rfl,rfl⟩
theorem Wp {w:World} (s:ByteArray) (hs:s.size≤10000000) (l:Int) (h:B4 DF s≤6):Calls prog 243 #[.string s,.int .i64 l] w fun e w'=>e=.returned (.tuple #[.string (FN (s.extract 0 (B4 DF s))),.int .i64 (B4 DF s)])∧w' = w:=by
 have h1:=AD (fun w=>NF (w:=w) s hs);have h2:=AD (fun w=>Jb (w:=w) (B4 DF s) 6 l (by omega));have hle:=FB DF s;generalize B4 DF s=n at h1 h2 hle h ⊢;have hnI:(n:Int)≤s.size:=by omega
 cases hd:((s.extract 0 n).toList == [100,111,109]) with
 | true=>
  have hk:FN (s.extract 0 n)=s.extract 0 n:=by unfold FN;rw [if_pos (.inl hd)]
  rw [hk];go_in
  go_wp2_with fail
  refine (h1.out _).mono ?_;rintro e w1 ⟨rfl,rfl⟩;go_wp2_with fail
  refine (h2.out _).mono ?_;rintro e w1 ⟨rfl,rfl⟩;go_wp2_with fail
  go_ret2
  exact ⟨rfl,rfl⟩
 | false=>
  cases hr:((s.extract 0 n).toList == [114,101,108]) with
  | true=>
   have hk:FN (s.extract 0 n)=s.extract 0 n:=by unfold FN;rw [if_pos (.inr hr)]
   rw [hk];go_in
   go_wp2_with fail
   refine (h1.out _).mono ?_;rintro e w1 ⟨rfl,rfl⟩;go_wp2_with fail
   refine (h2.out _).mono ?_;rintro e w1 ⟨rfl,rfl⟩;go_wp2_with fail
   go_ret2
   exact ⟨rfl,rfl⟩
  | false=>
   have hk:FN (s.extract 0 n)=RP:=by unfold FN;rw [if_neg (by simp [hd,hr])]
   rw [hk];go_in
   go_wp2_with fail
   refine (h1.out _).mono ?_;rintro e w1 ⟨rfl,rfl⟩;go_wp2_with fail
   refine (h2.out _).mono ?_;rintro e w1 ⟨rfl,rfl⟩;go_wp2_with fail
   go_ret2
   exact ⟨rfl,rfl⟩
def UU:Go.Shelf.Ren:=⟨fun | 137=>247 | 217=>287 | 266=>297 | x=>x,fun x=>x,fun x=>x⟩
theorem iL:Go.Proofs.Lays.n137 prog UU:={
 mixed:=by kernel_rfl
 f137:=func247.trans (congrArg some (by kernel_rfl))
 f217:=func287.trans (congrArg some (by kernel_rfl))
 f266:=func297.trans (congrArg some (by kernel_rfl))
 t3:=underlying3
 a3:=Tryz.isAgg3
 z3:=Tryz.sizeOf3
 v3:=Tryz.zeroValue3
 t5:=underlying5
 a5:=Tryz.isAgg5
 z5:=Tryz.sizeOf5
 v5:=Tryz.zeroValue5
 t9:=underlying9
 a9:=Tryz.isAgg9
 z9:=Tryz.sizeOf9
 v9:=Tryz.zeroValue9 }
theorem Nw {w:World} (s:ByteArray) (c:Int):Calls prog 247 #[.string s,.int .u8 c] w fun e w'=>e=.returned (.int .i64 (Lib.indexByte s.data.toList c.toNat.toUInt8))∧w' = w:=Go.Proofs.Any.strings_IndexByte iL s c w
def J5 (c:Int):Bool:=c == 40 || c == 41 || c == 44 || c == 59 || c == 46 || c == 33
theorem Y5 (c:Int) (h0:0≤c) (h1:c<256):(0≤Lib.indexByte [40,41,44,59,46,33] c.toNat.toUInt8)↔J5 c=true:=by
 obtain ⟨n,rfl⟩:∃ n:Nat,c=n:=⟨c.toNat,by omega⟩;have hn:n<256:=by omega
 rw [BE];have key:∀ k:Fin 256,(0≤Lib.indexByte [40,41,44,59,46,33] k.val.toUInt8)↔J5 (k.val:Int)=true:=by decide +kernel
 exact key ⟨n,hn⟩
def Ev (s:ByteArray):Bool:=decide (2≤s.size) && ((s.extract 0 2).toList == [58,45])
theorem eV {w:World} (s:ByteArray):Calls prog 288 #[.string s,.string ⟨#[58,45]⟩] w fun e w'=>e=.returned (.bool (Ev s))∧w' = w:=by
 by_cases h2:2≤s.size
 ·have hI:(2:Int)≤s.size:=by omega
  have hk:Ev s=((s.extract 0 2).toList == [58,45]):=by unfold Ev;simp [h2]
  rw [hk];go_in
  go_wp2_with fail
  go_ret
  exact ⟨rfl,rfl⟩
 ·have hI:¬ (2:Int)≤s.size:=by omega
  have hk:Ev s=false:=by unfold Ev;simp [h2]
  rw [hk];go_in
  go_wp2_with fail
  go_ret
  exact ⟨rfl,rfl⟩
theorem U9 {w:World} (s:ByteArray):Calls prog 248 #[.string s,.string ⟨#[58,45]⟩] w fun e w'=>e=.returned (.bool (Ev s))∧w' = w:=by
 have hp:=AD (fun w=>eV (w:=w) s);go_in
 go_wp2_with fail
 refine (hp.out _).mono ?_;rintro e w1 ⟨rfl,rfl⟩;go_wp2_with fail
 go_ret
 exact ⟨rfl,rfl⟩
def Vj:ByteArray:=⟨#[86,65,82]⟩
def RQ:ByteArray:=⟨#[73,78,84]⟩
def aA:ByteArray:=⟨#[58,45]⟩
def Ni (s:ByteArray):Option (ByteArray×Nat):=
 if E5 (Dw s 0) then (if B4 DF s≤6 then some (FN (s.extract 0 (B4 DF s)),B4 DF s) else none)
 else if E6 (Dw s 0) then some (Vj,1+B4 CU (s.extract 1 (min 2 s.size)))
 else if CU (Dw s 0) then (if B4 CU s≤2 then some (RQ,B4 CU s) else none)
 else if J5 (Dw s 0) then some (s.extract 0 1,1)
 else if Ev s then some (aA,2) else none
def CutTo (r:Option (ByteArray×Nat)) (l:Int) (e:Ending):Prop:=match r with
 | some (k,n)=>e=.returned (.tuple #[.string k,.int .i64 n])
 | none=>e=Cx 5 l
theorem ZX {w:World} (s:ByteArray) (h0:0<s.size) (hs:s.size≤10000000) (l:Int):Calls prog 197 #[.string s,.int .i64 l] w fun e w'=>CutTo (Ni s) l e∧w' = w:=by
 have hl:=LX h0;have h0I:(0:Int)<s.size:=by omega
 have hL:=AD (fun (w:World) (x:Int)=>Kx (w:=w) x);have hG:=AD (fun (w:World) (x:Int)=>P7 (w:=w) x);have hD:=AD (fun (w:World) (x:Int)=>IW (w:=w) x);unfold Ni;cases h1:E5 (Dw s 0) with
 | true=>
  rw [if_pos rfl];by_cases h6:B4 DF s≤6
  ·rw [if_pos h6];have hc:=AD (fun w=>Wp (w:=w) s hs l h6);generalize B4 DF s=n at hc ⊢;go_in
   go_wp2_with fail
   refine (hL.out _ _).mono ?_;rintro e w1 ⟨rfl,rfl⟩;rw [h1];go_wp2_with fail
   refine (hc.out _).mono ?_;rintro e w1 ⟨rfl,rfl⟩;go_wp2_with fail
   go_ret2
   exact ⟨rfl,rfl⟩
  ·rw [if_neg h6];have hc:=AD (fun w=>Us (w:=w) s hs l (by omega));go_in
   go_wp2_with fail
   refine (hL.out _ _).mono ?_;rintro e w1 ⟨rfl,rfl⟩;rw [h1];go_wp2_with fail
   refine (hc.out _).mono ?_;rintro e w1 ⟨rfl,rfl⟩;exact ⟨rfl,rfl,rfl⟩
 | false=>
  rw [if_neg (by simp)];cases h2:E6 (Dw s 0) with
  | true=>
   rw [if_pos rfl];have hx:=AD (fun w=>OQ (w:=w) (s.extract 1 (min 2 s.size)) (by rw [Aq];omega));have hnl:=FB CU (s.extract 1 (min 2 s.size));rw [Aq] at hnl;generalize B4 CU (s.extract 1 (min 2 s.size))=n at hx hnl ⊢;have hm:min 2 s.size≤s.size:=Nat.min_le_right _ _;have hm1:1≤min 2 s.size:=(by omega);have hmI:min (2:Int) (s.size:Int)=((min 2 s.size:Nat):Int):=(by omega);go_in
   go_wp2_with fail
   refine (hL.out _ _).mono ?_;rintro e w1 ⟨rfl,rfl⟩;rw [h1];go_wp2_with fail
   refine (hG.out _ _).mono ?_;rintro e w1 ⟨rfl,rfl⟩;rw [h2];go_wp2_with fail
   refine (hx.out _).mono ?_;rintro e w1 ⟨rfl,rfl⟩;go_wp2_with fail
   go_ret2
   exact ⟨rfl,rfl⟩
  | false=>
   rw [if_neg (by simp)];cases h3:CU (Dw s 0) with
   | true=>
    rw [if_pos rfl];have hx:=AD (fun w=>OQ (w:=w) s hs);by_cases h6:B4 CU s≤2
    ·rw [if_pos h6];have hf:=AD (fun w=>Jb (w:=w) (B4 CU s) 2 l (by omega));generalize B4 CU s=n at hx hf ⊢;go_in
     go_wp2_with fail
     refine (hL.out _ _).mono ?_;rintro e w1 ⟨rfl,rfl⟩;rw [h1];go_wp2_with fail
     refine (hG.out _ _).mono ?_;rintro e w1 ⟨rfl,rfl⟩;rw [h2];go_wp2_with fail
     refine (hD.out _ _).mono ?_;rintro e w1 ⟨rfl,rfl⟩;rw [h3];go_wp2_with fail
     refine (hx.out _).mono ?_;rintro e w1 ⟨rfl,rfl⟩;go_wp2_with fail
     refine (hf.out _).mono ?_;rintro e w1 ⟨rfl,rfl⟩;go_wp2_with fail
     go_ret2
     exact ⟨rfl,rfl⟩
    ·rw [if_neg h6];have hf:=AD (fun w=>Ip (w:=w) (B4 CU s) 2 l (by omega));go_in
     go_wp2_with fail
     refine (hL.out _ _).mono ?_;rintro e w1 ⟨rfl,rfl⟩;rw [h1];go_wp2_with fail
     refine (hG.out _ _).mono ?_;rintro e w1 ⟨rfl,rfl⟩;rw [h2];go_wp2_with fail
     refine (hD.out _ _).mono ?_;rintro e w1 ⟨rfl,rfl⟩;rw [h3];go_wp2_with fail
     refine (hx.out _).mono ?_;rintro e w1 ⟨rfl,rfl⟩;go_wp2_with fail
     refine (hf.out _).mono ?_;rintro e w1 ⟨rfl,rfl⟩;exact ⟨rfl,rfl,rfl⟩
   | false=>
    rw [if_neg (by simp)];have hi:=AD (fun w=>Nw (w:=w) ⟨#[40,41,44,59,46,33]⟩ (Dw s 0));have hiff:=Y5 (Dw s 0) (by rw [←hl];omega) (by rw [←hl];have:=(s[0]'h0).toNat_lt;omega);generalize hr:Lib.indexByte (⟨#[40,41,44,59,46,33]⟩:ByteArray).data.toList (Dw s 0).toNat.toUInt8=r at hi;have hiff':0≤r↔J5 (Dw s 0)=true:=by rw [←hr];exact hiff
    clear hiff hr;cases h4:J5 (Dw s 0) with
    | true=>
     rw [if_pos rfl];have hr0:0≤r:=hiff'.2 h4;clear hiff';go_in
     go_wp2_with fail
     refine (hL.out _ _).mono ?_;rintro e w1 ⟨rfl,rfl⟩;rw [h1];go_wp2_with fail
     refine (hG.out _ _).mono ?_;rintro e w1 ⟨rfl,rfl⟩;rw [h2];go_wp2_with fail
     refine (hD.out _ _).mono ?_;rintro e w1 ⟨rfl,rfl⟩;rw [h3];go_wp2_with fail
     refine (hi.out _).mono ?_;rintro e w1 ⟨rfl,rfl⟩;go_wp2_with fail
     go_ret2
     exact ⟨rfl,rfl⟩
    | false=>
     rw [if_neg (by simp)];have hr0:¬ 0≤r:=fun h=>by rw [hiff'.1 h] at h4;cases h4
     clear hiff';have ha:=AD (fun w=>U9 (w:=w) s);have hg:=AD (fun w=>Ek (w:=w) 5 l);cases h5:Ev s with
     | true=>
      rw [if_pos rfl];rw [h5] at ha;go_in
      go_wp2_with fail
      refine (hL.out _ _).mono ?_;rintro e w1 ⟨rfl,rfl⟩;rw [h1];go_wp2_with fail
      refine (hG.out _ _).mono ?_;rintro e w1 ⟨rfl,rfl⟩;rw [h2];go_wp2_with fail
      refine (hD.out _ _).mono ?_;rintro e w1 ⟨rfl,rfl⟩;rw [h3];go_wp2_with fail
      refine (hi.out _).mono ?_;rintro e w1 ⟨rfl,rfl⟩;go_wp2_with fail
      refine (ha.out _).mono ?_;rintro e w1 ⟨rfl,rfl⟩;go_wp2_with fail
      go_ret2
      exact ⟨rfl,rfl⟩
     | false=>
      rw [if_neg (by simp)];rw [h5] at ha;go_in
      go_wp2_with fail
      refine (hL.out _ _).mono ?_;rintro e w1 ⟨rfl,rfl⟩;rw [h1];go_wp2_with fail
      refine (hG.out _ _).mono ?_;rintro e w1 ⟨rfl,rfl⟩;rw [h2];go_wp2_with fail
      refine (hD.out _ _).mono ?_;rintro e w1 ⟨rfl,rfl⟩;rw [h3];go_wp2_with fail
      refine (hi.out _).mono ?_;rintro e w1 ⟨rfl,rfl⟩;go_wp2_with fail
      refine (ha.out _).mono ?_;rintro e w1 ⟨rfl,rfl⟩;go_wp2_with fail
      refine (hg.out _).mono ?_;rintro e w1 ⟨rfl,rfl⟩;exact ⟨rfl,rfl,rfl⟩
structure Tk where
 kind:ByteArray
 text:ByteArray
 line:Nat
def FK:Nat→ByteArray→Nat→(List Tk×Nat) ⊕ Nat
 | 0,_,l=>.inl ([],l)
 | k+1,s,l=>
  if s.size=0 then .inl ([],l)
  else if Dw s 0=10 then FK k (s.extract 1 s.size) (l+1)
  else if Dw s 0=32∨Dw s 0=9 then FK k (s.extract 1 s.size) l
  else if Dw s 0=37 then FK k (s.extract (B4 Gc s) s.size) l
  else match Ni s with
   | none=>.inr l
   | some (kd,n)=>match FK k (s.extract n s.size) l with
    | .inl (ts,m)=>.inl (⟨kd,s.extract 0 n,l⟩ :: ts,m)
    | .inr m=>.inr m
theorem GC {p:Int→Bool} {s:ByteArray} (h0:0<s.size) (h:p (Dw s 0)=true):1≤B4 p s:=by
 unfold B4;obtain ⟨k,hk⟩:∃ k,s.size=k+1:=⟨s.size - 1,by omega⟩;rw [hk,DC,if_pos h];exact (NG p s 1 k).1
theorem XA {s:ByteArray} (h:Ev s=true):2≤s.size:=by
 unfold Ev at h;simp at h;exact h.1
theorem Nh {s:ByteArray} (h0:0<s.size) {k:ByteArray} {n:Nat} (h:Ni s=some (k,n)):1≤n∧n≤s.size:=by
 unfold Ni at h;split at h
 ·rename_i hl;split at h
  ·cases h;exact ⟨GC h0 (by unfold DF;rw [hl];rfl),FB _ _⟩
  ·cases h
 ·split at h
  ·cases h;have:=FB CU (s.extract 1 (min 2 s.size));rw [Aq] at this;omega
  ·split at h
   ·rename_i hd;split at h
    ·cases h;exact ⟨GC h0 hd,FB _ _⟩
    ·cases h
   ·split at h
    ·cases h;omega
    ·split at h
     ·rename_i ha;cases h;have:=XA ha;omega
     ·cases h
end
section
def Iw {A:Type} (l:List (ByteArray×A)):Prop:=∀ (i j:Nat) (a b:ByteArray×A),l[i]?=some a→l[j]?=some b→a.1=b.1→i=j
theorem JB {A:Type} {l:List (ByteArray×A)} {s:ByteArray} {p:Nat} (h:CP l s=some p):∃ a,l[p]?=some (s,a):=by
 unfold CP at h;obtain ⟨hp,he,_⟩:=Cc.1 h;have:l[p].1=s:=by simpa using he
 exact ⟨l[p].2,by rw [AB hp,←this]⟩
theorem Rm {A:Type} {l:List (ByteArray×A)} {s:ByteArray} (h:CP l s=none):∀ a∈l,a.1≠s:=by
 unfold CP at h;intro a ha e;have:=Ct.1 h a ha;simp [e] at this
theorem Iw.push {A:Type} {l:List (ByteArray×A)} (h:Iw l) {s:ByteArray} (hs:CP l s=none) (a:A):Iw (l++[(s,a)]):=by
 have hn:=Rm hs;intro i j x y hi hj e;rw [List.getElem?_append] at hi hj;split at hi
 ·split at hj
  ·exact h i j x y hi hj e
  ·exfalso;have hy:y=(s,a):=by
    cases hk:j - l.length with
    | zero=>rw [hk] at hj;simpa using hj.symm
    | succ k=>rw [hk] at hj;simp at hj
   subst hy;exact hn x (AE hi) e
 ·split at hj
  ·exfalso;have hy:x=(s,a):=by
    cases hk:i - l.length with
    | zero=>rw [hk] at hi;simpa using hi.symm
    | succ k=>rw [hk] at hi;simp at hi
   subst hy;exact hn y (AE hj) e.symm
  ·have h1:i - l.length=0:=by
    cases hk:i - l.length with
    | zero=>rfl
    | succ k=>rw [hk] at hi;simp at hi
   have h2:j - l.length=0:=by
    cases hk:j - l.length with
    | zero=>rfl
    | succ k=>rw [hk] at hj;simp at hj
   omega
def M5 (sc:Ba) (t:Tn) (x:BN):Prop:=x.isVar=IV t.g∧(x.isVar=true→∃ (p:Nat) (d:Nat),x.num=(p:Int)∧sc[p]?=some (BB t.g,d))
def FG (sc:Ba):List Tn→List BN→Prop
 | [],[]=>True
 | t :: ts,x :: xs=>M5 sc t x∧FG sc ts xs
 | _,_=>False
def Ep (a b:Ba):Prop:=∃ l,b=a++l
theorem Ep.refl (a:Ba):Ep a a:=⟨[],by simp⟩
theorem Ep.trans {a b c:Ba} (h:Ep a b) (k:Ep b c):Ep a c:=by
 obtain ⟨l,rfl⟩:=h;obtain ⟨m,rfl⟩:=k;exact ⟨l++m,by simp⟩
theorem Ep.at {a b:Ba} (h:Ep a b) {p:Nat} {x:ByteArray×Nat} (hp:a[p]?=some x):b[p]?=some x:=by
 obtain ⟨l,rfl⟩:=h;have hl:p<a.length:=by
  rcases BP p a.length with h | h
  ·exact h
  ·rw [Af h] at hp;cases hp
 rw [Az hl];exact hp
theorem M5.grows {a b:Ba} {t:Tn} {x:BN} (h:M5 a t x) (g:Ep a b):M5 b t x:=⟨h.1,fun hv=>by
 obtain ⟨p,d,h1,h2⟩:=h.2 hv
 exact ⟨p,d,h1,g.at h2⟩⟩
theorem FG.grows {a b:Ba} {ts:List Tn} {xs:List BN} (h:FG a ts xs) (g:Ep a b):FG b ts xs:=by
 induction ts generalizing xs with
 | nil=>cases xs with
  | nil=>trivial
  | cons x xs=>exact h.elim
 | cons t ts ih=>cases xs with
  | nil=>exact h.elim
  | cons x xs=>exact ⟨h.1.grows g,ih h.2⟩
theorem ND {m:Mean} {sc sc':Ba} {t:Tn} {d:Nat} {x:BN} (ho:Iw sc) (h4:sc.length≤4) (h:Gu m sc t d=.ok (x,sc')):M5 sc' t x∧Ep sc sc'∧Iw sc'∧sc'.length≤4:=by
 unfold Gu at h;split at h
 ·rename_i hv;split at h
  ·rename_i p hp;split at h
   ·cases h
   ·cases h;obtain ⟨a,ha⟩:=JB hp;exact ⟨⟨hv.symm,fun _=>⟨p,a,rfl,ha⟩⟩,Ep.refl _,ho,h4⟩
  ·rename_i hp;split at h
   ·cases h
   ·rename_i h44;cases h;refine ⟨⟨hv.symm,fun _=>⟨sc.length,d,rfl,?_⟩⟩,⟨_,rfl⟩,ho.push hp d,?_⟩
    ·rw [Av (AQ _)];simp
    ·rw [AJ,Ah];omega
 ·rename_i hv;split at h
  ·cases h
  ·cases h;exact ⟨⟨by simpa using hv,fun hc=>by cases hc⟩,Ep.refl _,ho,h4⟩
theorem RJ {m:Mean} {sc sc':Ba} {ts:List Tn} {ds:List Nat} {xs:List BN} (hl:ts.length=ds.length) (ho:Iw sc) (h4:sc.length≤4) (h:D9 m sc ts ds=.ok (xs,sc')):FG sc' ts xs∧Ep sc sc'∧Iw sc'∧sc'.length≤4:=by
 induction ts generalizing sc sc' ds xs with
 | nil=>simp only [D9] at h;cases h;exact ⟨trivial,Ep.refl _,ho,h4⟩
 | cons t ts ih=>cases ds with
  | nil=>cases hl
  | cons d ds=>
   simp only [D9] at h;split at h
   ·cases h
   ·rename_i x sc1 h1;obtain ⟨m1,g1,o1,l1⟩:=ND ho h4 h1;split at h
    ·cases h
    ·rename_i xs' sc2 h2;cases h;obtain ⟨m2,g2,o2,l2⟩:=ih (by simpa using hl) o1 l1 h2;exact ⟨⟨m1.grows g2,m2⟩,g1.trans g2,o2,l2⟩
theorem IB {m:Mean} {sc sc':Ba} {a:Dx} {x:BW} (ho:Iw sc) (h4:sc.length≤4) (h:FR m sc a=.ok (x,sc')):FG sc' a.terms x.terms∧Ep sc sc'∧Iw sc'∧sc'.length≤4:=by
 unfold FR at h;split at h
 ·cases h
 ·split at h
  ·cases h
  ·rename_i hl;split at h
   ·cases h
   ·rename_i h1;cases h;exact RJ (by simpa using hl) ho h4 h1
def II (sc:Ba):List Dn→List (BW×Bool)→Prop
 | [],[]=>True
 | l :: ls,x :: xs=>FG sc l.atom.terms x.1.terms∧x.2=l.no∧II sc ls xs
 | _,_=>False
theorem UI {m:Mean} {sc sc':Ba} {k:Nat} {ls:List Dn} {xs:List (BW×Bool)} (ho:Iw sc) (h4:sc.length≤4) (h:Eg m sc k ls=.ok (xs,sc')):II sc' ls xs∧Ep sc sc'∧Iw sc'∧sc'.length≤4:=by
 induction ls generalizing sc sc' k xs with
 | nil=>simp only [Eg] at h;cases h;exact ⟨trivial,Ep.refl _,ho,h4⟩
 | cons l ls ih=>
  simp only [Eg] at h;split at h
  ·cases h
  ·split at h
   ·cases h
   ·rename_i x sc1 h1;obtain ⟨m1,g1,o1,l1⟩:=IB ho h4 h1;split at h
    ·cases h
    ·rename_i xs' sc2 h2;cases h;obtain ⟨m2,g2,o2,l2⟩:=ih o1 l1 h2;exact ⟨⟨m1.grows g2,rfl,m2⟩,g1.trans g2,o2,l2⟩
def XD (c:Dx×List Dn) (x:Ac):Prop:=∃ sc,Iw sc∧sc.length≤4∧FG sc c.1.terms x.head.terms∧II sc c.2 x.lits∧x.line=c.1.name.line
def Ex:List (Dx×List Dn)→List Ac→Prop
 | [],[]=>True
 | c :: cs,x :: xs=>XD c x∧Ex cs xs
 | _,_=>False
theorem Ex.append {a b:List (Dx×List Dn)} {x y:List Ac} (h:Ex a x) (k:Ex b y):Ex (a++b) (x++y):=by
 induction a generalizing x with
 | nil=>cases x with
  | nil=>exact k
  | cons _ _=>exact h.elim
 | cons c a ih=>cases x with
  | nil=>exact h.elim
  | cons z x=>exact ⟨h.1,ih h.2⟩
def Fy:List CM→List (Dx×List Dn)
 | []=>[]
 | .clause h ls :: is=>(h,ls) :: Fy is
 | _ :: is=>Fy is
def OC:CM→List (Dx×List Dn)
 | .clause h ls=>[(h,ls)]
 | _=>[]
theorem Je {m m':Mean} {a:Dx} {ls:List Dn} (h:addClause m a ls=.ok m'):∃ x,m'.clauses=m.clauses++[x]∧XD (a,ls) x∧m'.doms=m.doms∧m'.rels=m.rels:=by
 unfold addClause at h;split at h
 ·cases h
 ·split at h
  ·cases h
  ·rename_i x sc h1;obtain ⟨m1,g1,o1,l1⟩:=IB (sc:=[]) (by intro i j a b h;simp at h) (by simp) h1;split at h
   ·cases h
   ·rename_i xs sc2 h2;obtain ⟨m2,g2,o2,l2⟩:=UI o1 l1 h2;cases h;exact ⟨_,rfl,⟨sc2,o2,l2,m1.grows g2,m2,rfl⟩,rfl,rfl⟩
theorem QF {m m':Mean} {i:CM} {cs:List (Dx×List Dn)} (hm:Ex cs m.clauses) (h:D0 m i=.ok m'):Ex (cs++OC i) m'.clauses:=by
 cases i with
 | dom n z=>
  simp only [D0,addDom] at h;split at h
  ·cases h
  ·split at h
   ·cases h
   ·split at h
    ·cases h
    ·cases h;simpa [OC] using hm
 | rel n z=>
  simp only [D0,addRel] at h;split at h
  ·cases h
  ·split at h
   ·cases h
   ·split at h
    ·cases h
    ·cases h;simpa [OC] using hm
 | clause a ls=>
  obtain ⟨x,h1,h2,_⟩:=Je h;rw [h1];exact hm.append ⟨h2,trivial⟩
theorem RX {m m':Mean} {is:List CM} {cs:List (Dx×List Dn)} (hm:Ex cs m.clauses) (h:Bh m is=.ok m'):Ex (cs++Fy is) m'.clauses:=by
 induction is generalizing m cs with
 | nil=>simp only [Bh] at h;cases h;simpa [Fy] using hm
 | cons i is ih=>
  simp only [Bh] at h;split at h
  ·cases h
  ·rename_i m1 h1;have:=ih (QF hm h1) h;rw [Ab] at this;cases i <;> simpa [Fy,OC] using this
def FO (xs:List BN):List Int:=(xs.filter (·.isVar)).map (·.num)
def KK (c:Ac):List Int:=FO c.head.terms++(c.lits.filter (·.2)).flatMap fun l=>FO l.1.terms
def JO (c:Ac):List Int:=(c.lits.filter (fun l=>!l.2)).flatMap fun l=>FO l.1.terms
def DQ (c:Ac):Bool:=(KK c).any fun n=>!decide (n∈JO c)
abbrev EV:=List (Nat×Nat)
inductive D8 (E:EV):Nat→Nat→Prop
 | here (a:Nat):D8 E a a
 | step {a b c:Nat} (h:(a,b)∈E) (k:D8 E b c):D8 E a c
theorem D8.trans {E:EV} {a b c:Nat} (h:D8 E a b) (k:D8 E b c):D8 E a c:=by
 induction h with
 | here=>exact k
 | step h _ ih=>exact .step h (ih k)
def stepR (T:Nat→Bool) (e:Nat×Nat):Nat→Bool:=fun j=>T j || (T e.1 && decide (j=e.2))
def IN (E:EV) (T:Nat→Bool):Nat→Bool:=E.foldl stepR T
def I8 (E:EV):Nat→(Nat→Bool)→(Nat→Bool)
 | 0,T=>T
 | k+1,T=>I8 E k (IN E T)
def H8 (n:Nat) (E:EV) (a b:Nat):Bool:=I8 E n (fun j=>decide (j=a)) b
theorem J0 (E:EV) (T:Nat→Bool) {j:Nat} (h:T j=true):IN E T j=true:=by
 unfold IN;induction E generalizing T with
 | nil=>exact h
 | cons e E ih=>exact ih _ (by simp [stepR,h])
theorem Rf (E:EV) (k:Nat) (T:Nat→Bool) {j:Nat} (h:T j=true):I8 E k T j=true:=by
 induction k generalizing T with
 | zero=>exact h
 | succ k ih=>exact ih _ (J0 E T h)
theorem Td (E:EV) (T:Nat→Bool) {e:Nat×Nat} (he:e∈E) (h:T e.1=true):IN E T e.2=true:=by
 unfold IN;induction E generalizing T with
 | nil=>cases he
 | cons x E ih=>
  rcases AG.1 he with rfl | he
  ·exact J0 E _ (by simp [stepR,h])
  ·exact ih (stepR T x) he (by simp [stepR,h])
def MY (E:EV) (T:Nat→Bool):Prop:=∀ e∈E,T e.1=true→T e.2=true
theorem Pv {E:EV} {T:Nat→Bool} (h:MY E T):IN E T=T:=by
 unfold IN;induction E with
 | nil=>rfl
 | cons x E ih=>
  have hx:stepR T x=T:=by
   funext j
   simp only [stepR];cases hj:T j with
   | true=>rfl
   | false=>
    cases h1:T x.1 with
    | false=>rfl
    | true=>
     have h2:=h x (by simp) h1;have:j≠x.2:=by intro e;rw [e,h2] at hj;cases hj
     simp [this]
  rw [List.foldl_cons,hx];exact ih fun e he=>h e (by simp [he])
def jN (n:Nat) (T:Nat→Bool):Nat:=((List.range n).filter T).length
theorem Sb (n:Nat) (T:Nat→Bool):jN n T≤n:=by
 have:=Bl T (List.range n);unfold jN;simpa using this
theorem Jc {A:Type} {l:List A} {p q:A→Bool} (h:∀ a∈l,p a=true→q a=true):(l.filter p).length≤(l.filter q).length:=by
 induction l with
 | nil=>simp
 | cons a l ih=>
  have IH:=ih fun b hb=>h b (by simp [hb]);cases hp:p a with
  | true=>rw [BO hp,BO (h a (by simp) hp)];simp;exact IH
  | false=>
   rw [BS (by simp [hp])];cases hq:q a with
   | true=>rw [BO hq];simp;omega
   | false=>rw [BS (by simp [hq])];exact IH
theorem Nx {A:Type} {l:List A} {p q:A→Bool} (h:∀ a∈l,p a=true→q a=true) {x:A} (hx:x∈l) (h1:p x=false) (h2:q x=true):(l.filter p).length<(l.filter q).length:=by
 induction l with
 | nil=>cases hx
 | cons a l ih=>
  have M:=Jc (l:=l) fun b hb=>h b (by simp [hb]);rcases AG.1 hx with rfl | hx
  ·rw [BS (by simp [h1]),BO h2];simp;omega
  ·have IH:=ih (fun b hb=>h b (by simp [hb])) hx;cases hp:p a with
   | true=>rw [BO hp,BO (h a (by simp) hp)];simp;exact IH
   | false=>
    rw [BS (by simp [hp])];cases hq:q a with
    | true=>rw [BO hq];simp;omega
    | false=>rw [BS (by simp [hq])];exact IH
theorem eB {n:Nat} {T U:Nat→Bool} (h:∀ j,j<n→T j=true→U j=true):jN n T≤jN n U:=Jc fun a ha=>h a (by simpa using ha)
theorem ML {n:Nat} {T U:Nat→Bool} (h:∀ j,j<n→T j=true→U j=true) {x:Nat} (hx:x<n) (h1:T x=false) (h2:U x=true):jN n T<jN n U:=
 Nx (fun a ha=>h a (by simpa using ha)) (by simpa using hx) h1 h2
def Below (n:Nat) (E:EV):Prop:=∀ e∈E,e.1<n∧e.2<n
theorem L2 {E:EV} {T:Nat→Bool} (h:MY E T) (k:Nat):I8 E k T=T:=by
 induction k with
 | zero=>rfl
 | succ k ih=>rw [I8,Pv h];exact ih
theorem Re {n:Nat} {E:EV} (hE:Below n E) (k:Nat) (T:Nat→Bool) (hk:n<jN n T+k):MY E (I8 E k T):=by
 induction k generalizing T with
 | zero=>have:=Sb n T;omega
 | succ k ih=>
  by_cases hc:MY E T
  ·rw [L2 hc];exact hc
  ·obtain ⟨e,he,h1,h2⟩:∃ e,e∈E∧T e.1=true∧T e.2=false:=by
    refine Classical.byContradiction fun hn=>hc fun e he h1=>?_;refine Classical.byContradiction fun h2=>hn ⟨e,he,h1,by simpa using h2⟩
   have:=ML (n:=n) (T:=T) (U:=IN E T) (fun j _ hj=>J0 E T hj) (hE e he).2 h2 (Td E T he h1);exact ih _ (by omega)
theorem TU {E:EV} {a:Nat} {T:Nat→Bool} (h:∀ j,T j=true→D8 E a j) {e:Nat×Nat} (he:e∈E):∀ j,stepR T e j=true→D8 E a j:=by
 intro j hj;simp only [stepR,Cu,A1,decide_eq_true_eq] at hj;rcases hj with hj | ⟨h1,rfl⟩
 ·exact h j hj
 ·exact (h _ h1).trans (.step he (.here _))
theorem Rg {E F:EV} {a:Nat} {T:Nat→Bool} (hF:∀ e∈F,e∈E) (h:∀ j,T j=true→D8 E a j):∀ j,IN F T j=true→D8 E a j:=by
 unfold IN;induction F generalizing T with
 | nil=>exact h
 | cons e F ih=>exact ih (fun x hx=>hF x (by simp [hx])) (TU h (hF e (by simp)))
theorem Pu {E:EV} {a:Nat} {T:Nat→Bool} (h:∀ j,T j=true→D8 E a j) (k:Nat):∀ j,I8 E k T j=true→D8 E a j:=by
 induction k generalizing T with
 | zero=>exact h
 | succ k ih=>exact ih (Rg (fun _ h=>h) h)
theorem Sc {E:EV} {T:Nat→Bool} (h:MY E T) {a b:Nat} (ha:T a=true) (r:D8 E a b):T b=true:=by
 induction r with
 | here=>exact ha
 | step he _ ih=>exact ih (h _ he ha)
theorem FD {n:Nat} {E:EV} (hE:Below n E) {a b:Nat} (ha:a<n):H8 n E a b=true↔D8 E a b:=by
 constructor
 ·exact Pu (a:=a) (fun j hj=>by simp at hj;subst hj;exact .here _) n b
 ·intro r;have h1:0<jN n (fun j=>decide (j=a)):=by
   have:=ML (n:=n) (T:=fun _=>false) (U:=fun j=>decide (j=a)) (fun j _ h=>by cases h) ha rfl (by simp);omega
  have hc:=Re hE n (fun j=>decide (j=a)) (by omega);exact Sc hc (Rf E n _ (by simp)) r
theorem Vl {n:Nat} {E:EV} (hE:Below n E) {S:Nat→Nat→Bool} (hs:∀ i j,i<n→S i j=true→D8 E i j) (hi:∀ i,i<n→S i i=true)
  (hc:∀ e∈E,∀ j,S e.2 j=true→S e.1 j=true) {a b:Nat} (ha:a<n):S a b=H8 n E a b:=by
 rw [Bg,FD hE ha];refine ⟨hs a b ha,fun r=>?_⟩;induction r with
 | here=>exact hi _ ha
 | step he _ ih=>exact hc _ he _ (ih (hE _ he).2)
def E3 (n:Nat) (E:EV) (a:Nat):Nat:=jN n (H8 n E a)
theorem Px {n:Nat} {E:EV} (hE:Below n E) {a b:Nat} (he:(a,b)∈E):E3 n E b≤E3 n E a:=by
 refine eB fun j _ hj=>?_;rw [FD hE (hE _ he).2] at hj;rw [FD hE (hE _ he).1];exact .step he hj
theorem Rk {n:Nat} {E:EV} (hE:Below n E) {a b:Nat} (he:(a,b)∈E) (hn:H8 n E b a=false):E3 n E b+1≤E3 n E a:=by
 refine ML (fun j _ hj=>?_) (hE _ he).1 hn ?_
 ·rw [FD hE (hE _ he).2] at hj;rw [FD hE (hE _ he).1];exact .step he hj
 ·rw [FD hE (hE _ he).1];exact .here _
theorem Rj {n:Nat} {E:EV} (hE:Below n E) {a:Nat} (ha:a<n):1≤E3 n E a:=by
 have:=ML (n:=n) (T:=fun _=>false) (U:=H8 n E a) (fun j _ h=>by cases h) ha rfl ((FD hE ha).2 (.here _));unfold E3;omega
def PC (c:Ac):EV:=c.lits.map fun l=>(c.head.rel,l.1.rel)
def Cf (cs:List Ac):EV:=cs.flatMap PC
def ET (n:Nat) (E:EV) (c:Ac):Bool:=c.lits.any fun l=>l.2 && H8 n E l.1.rel c.head.rel
def EC (p:Ac→Bool):List Ac→Option Nat
 | []=>none
 | c :: cs=>if p c then some c.line else EC p cs
def GI (m:Mean):Except I0 Mean:=
 match EC DQ m.clauses with
 | some l=>.error (12,l)
 | none=>match EC (ET m.rels.length (Cf m.clauses)) m.clauses with
  | some l=>.error (13,l)
  | none=>.ok m
def Gg (n:Nat) (c:Ac):Prop:=c.head.rel<n∧∀ l∈c.lits,l.1.rel<n
theorem Fi {n:Nat} {cs:List Ac} (h:∀ c∈cs,Gg n c):Below n (Cf cs):=by
 intro e he;simp only [Cf,PC,Ap,AM] at he;obtain ⟨c,hc,l,hl,rfl⟩:=he;exact ⟨(h c hc).1,(h c hc).2 l hl⟩
theorem Ej {A:Type} {l:List (ByteArray×A)} {s:ByteArray} {p:Nat} (h:CP l s=some p):p<l.length:=by
 obtain ⟨a,ha⟩:=JB h;rcases BP p l.length with h | h
 ·exact h
 ·rw [Af h] at ha;cases ha
theorem Qz {m:Mean} {sc sc':Ba} {a:Dx} {x:BW} (h:FR m sc a=.ok (x,sc')):x.rel<m.rels.length:=by
 unfold FR at h;split at h
 ·cases h
 ·rename_i r hr;split at h
  ·cases h
  ·split at h
   ·cases h
   ·cases h;exact Ej hr
theorem Y7 {m:Mean} {sc sc':Ba} {k:Nat} {ls:List Dn} {xs:List (BW×Bool)} (h:Eg m sc k ls=.ok (xs,sc')):∀ l∈xs,l.1.rel<m.rels.length:=by
 induction ls generalizing sc sc' k xs with
 | nil=>simp only [Eg] at h;cases h;intro l hl;cases hl
 | cons l ls ih=>
  simp only [Eg] at h;split at h
  ·cases h
  ·split at h
   ·cases h
   ·rename_i x sc1 h1;split at h
    ·cases h
    ·rename_i xs' sc2 h2;cases h;intro l hl;rcases AG.1 hl with rfl | hl
     ·exact Qz h1
     ·exact ih h2 l hl
structure DA (m:Mean):Prop where
 doms:m.doms.length≤4
 rels:m.rels.length≤6
 clauses:m.clauses.length≤52
 onceD:Iw m.doms
 onceR:Iw m.rels
 cols:∀ r∈m.rels,r.2.length≤3∧∀ d∈r.2,d<m.doms.length
 inR:∀ c∈m.clauses,Gg m.rels.length c
 lits:∀ c∈m.clauses,c.lits.length≤4
 sizes:∀ d∈m.doms,1≤d.2∧d.2≤8
theorem DA.empty:DA ⟨[],[],[]⟩:=⟨by simp,by simp,by simp,by intro i j a b h;simp at h,by intro i j a b h;simp at h,by simp,by simp,by simp,by simp⟩
theorem Uu {m:Mean} {k:Nat} {cs:List Tn} {ds:List Nat} (hk:k≤3) (h:IA m k cs=.ok ds):ds.length+k≤3∧ds.length=cs.length∧∀ d∈ds,d<m.doms.length:=by
 induction cs generalizing k ds with
 | nil=>simp only [IA] at h;cases h;simp;omega
 | cons c cs ih=>
  simp only [IA] at h;split at h
  ·cases h
  ·split at h
   ·cases h
   ·rename_i d hd;split at h
    ·cases h
    ·rename_i ds' h2;cases h;obtain ⟨h3,h4,h5⟩:=ih (by omega) h2;refine ⟨by simp;omega,by simp;omega,fun d hd'=>?_⟩;rcases AG.1 hd' with rfl | hd'
     ·exact Ej hd
     ·exact h5 d hd'
theorem Y8 {m:Mean} {sc sc':Ba} {k:Nat} {ls:List Dn} {xs:List (BW×Bool)} (hk:k≤4) (h:Eg m sc k ls=.ok (xs,sc')):xs.length+k≤4:=by
 induction ls generalizing sc sc' k xs with
 | nil=>simp only [Eg] at h;cases h;simp;omega
 | cons l ls ih=>
  simp only [Eg] at h;split at h
  ·cases h
  ·split at h
   ·cases h
   ·split at h
    ·cases h
    ·rename_i h2;cases h;have:=ih (by omega) h2;simp;omega
theorem Li {m m':Mean} {i:CM} (hm:DA m) (h:D0 m i=.ok m'):DA m':=by
 cases i with
 | dom n z=>
  simp only [D0,addDom] at h;split at h
  ·cases h
  ·rename_i h4;split at h
   ·cases h
   ·rename_i ht;split at h
    ·cases h
    ·rename_i hz;cases h;have hno:CP m.doms (BB n.g)=none:=by
      simp [Mean.taken,Mean.dom] at ht;exact ht.1
     exact ⟨by have:=hm.doms;simp;omega,hm.rels,hm.clauses,hm.onceD.push hno _,hm.onceR,fun r hr=>⟨(hm.cols r hr).1,fun d hd=>by have:=(hm.cols r hr).2 d hd;simp;omega⟩,hm.inR,hm.lits,fun d hd=>by
      rcases AC.1 hd with hd | hd
      ·exact hm.sizes d hd
      ·simp at hd;subst hd;simp;omega⟩
 | rel n z=>
  simp only [D0,addRel] at h;split at h
  ·cases h
  ·rename_i h6;split at h
   ·cases h
   ·rename_i ht;split at h
    ·cases h
    ·rename_i ds hds;cases h;have hno:CP m.rels (BB n.g)=none:=by
      simp [Mean.taken,Mean.rel] at ht;exact ht.2
     obtain ⟨c1,c2,c3⟩:=Uu (by omega) hds
     exact ⟨hm.doms,by have:=hm.rels;simp;omega,hm.clauses,hm.onceD,hm.onceR.push hno _,fun r hr=>by
      rcases AC.1 hr with hr | hr
      ·exact hm.cols r hr
      ·simp at hr;subst hr;exact ⟨by omega,c3⟩,fun c hc=>⟨by have:=(hm.inR c hc).1;simp;omega,fun l hl=>by have:=(hm.inR c hc).2 l hl;simp;omega⟩,hm.lits,hm.sizes⟩
 | clause a ls=>
  simp only [D0,addClause] at h;split at h
  ·cases h
  ·rename_i h52;split at h
   ·cases h
   ·rename_i x sc h1;split at h
    ·cases h
    ·rename_i xs sc2 h2;cases h
     exact ⟨hm.doms,hm.rels,by have:=hm.clauses;simp;omega,hm.onceD,hm.onceR,hm.cols,fun c hc=>by
      rcases AC.1 hc with hc | hc
      ·exact hm.inR c hc
      ·simp at hc;subst hc;exact ⟨Qz (m:=m) h1,Y7 (m:=m) h2⟩,fun c hc=>by
      rcases AC.1 hc with hc | hc
      ·exact hm.lits c hc
      ·simp at hc;subst hc;have:=Y8 (by omega) h2;simp;omega,hm.sizes⟩
theorem Ya {m m':Mean} {is:List CM} (hm:DA m) (h:Bh m is=.ok m'):DA m':=by
 induction is generalizing m with
 | nil=>simp only [Bh] at h;cases h;exact hm
 | cons i is ih=>
  simp only [Bh] at h;split at h
  ·cases h
  ·rename_i m1 h1;exact ih (Li hm h1) h
def Kn (n:Int):ByteArray:=if 10≤n then ⟨#[(48+n / 10).toNat.toUInt8,(48+n % 10).toNat.toUInt8]⟩ else ⟨#[(48+n % 10).toNat.toUInt8]⟩
def Pg (ts:List Tn) (l:Nat):Prop:=∃ t∈ts,t.line=l
theorem Pg.of {ts us:List Tn} {l:Nat} (h:Pg us l) (g:IJ ts us):Pg ts l:=by
 obtain ⟨t,ht,e⟩:=h;exact ⟨t,g.suf.subset ht,e⟩
theorem QP {p:Sg→Bool} {ts:List Tn} {l:Nat} (e:CV ts) (h:Ca p ts=.error l):Pg ts l:=by
 obtain ⟨t,us,rfl⟩:=e.cons;simp only [Ca] at h;split at h
 ·cases h
 ·cases h;exact ⟨t,by simp,rfl⟩
theorem nL {p:Sg→Bool} (hp:Em p) {k:Nat} {ts:List Tn} {l:Nat} (hk:ts.length≤k) (e:CV ts) (h:Ef p k ts=.error l):Pg ts l:=by
 induction k generalizing ts with
 | zero=>
  obtain ⟨t,us,rfl⟩:=e.cons;simp at hk
 | succ k ih=>
  simp only [Ef] at h;split at h
  ·rename_i hc;have g1:=Cm ES e hc;split at h
   ·rename_i hl;cases h;exact (QP g1.2 hl).of g1
   ·rename_i t us' ht;have g2:=(BK hp g1.2 ht).1;split at h
    ·rename_i hl;cases h;exact (ih (by have:=g1.1;have:=g2.1;omega) g2.2 hl).of (g1.trans g2)
    ·cases h
  ·split at h
   ·rename_i hl;cases h;exact QP e hl
   ·cases h
theorem aT {p:Sg→Bool} (hp:Em p) {k:Nat} {ts us r:List Tn} (hk:ts.length≤k) (e:CV ts) (h:Ef p k ts=.ok (r,us)):∀ t∈r,p t.g=true∧t∈ts:=by
 induction k generalizing ts us r with
 | zero=>
  obtain ⟨t,us,rfl⟩:=e.cons;simp at hk
 | succ k ih=>
  simp only [Ef] at h;split at h
  ·rename_i hc;have g1:=Cm ES e hc;split at h
   ·cases h
   ·rename_i t us' ht;obtain ⟨g2,e2,p2⟩:=BK hp g1.2 ht;split at h
    ·cases h
    ·rename_i r' vs hr;cases h;intro x hx;rcases AG.1 hx with rfl | hx
     ·exact ⟨p2,g1.suf.subset (by rw [e2];simp)⟩
     ·obtain ⟨a,b⟩:=ih (by have:=g1.1;have:=g2.1;omega) g2.2 hr x hx;exact ⟨a,(g1.trans g2).suf.subset b⟩
  ·split at h
   ·cases h
   ·cases h;intro x hx;cases hx
theorem UN {p:Sg→Bool} (hp:Em p) {ts us r:List Tn} (e:CV ts) (h:E4 p ts=.ok (r,us)):(∀ t∈r,p t.g=true∧t∈ts)∧r≠[]:=by
 unfold E4 at h;split at h
 ·cases h
 ·rename_i t1 us1 h1;have g1:=(BK J4 e h1).1;split at h
  ·cases h
  ·rename_i t2 us2 h2;obtain ⟨g2,e2,p2⟩:=BK hp g1.2 h2;split at h
   ·cases h
   ·rename_i r3 us3 h3;cases h;refine ⟨fun x hx=>?_,by simp⟩;rcases AG.1 hx with rfl | hx
    ·exact ⟨p2,g1.suf.subset (by rw [e2];simp)⟩
    ·obtain ⟨a,b⟩:=aT hp (AQ _) g2.2 h3 x hx;exact ⟨a,(g1.trans g2).suf.subset b⟩
theorem eK {ts us:List Tn} {a:Dx} (e:CV ts) (h:Fj ts=.ok (a,us)):(∀ t∈a.terms,Bv t.g=true∧t∈ts)∧a.terms≠[]∧C8 a.name.g=true∧a.name∈ts:=by
 unfold Fj at h;split at h
 ·cases h
 ·rename_i t1 us1 h1;obtain ⟨g1,e1,p1⟩:=BK Dg e h1;split at h
  ·cases h
  ·rename_i r3 us3 h3;cases h;obtain ⟨a1,a2⟩:=UN I6 g1.2 h3;exact ⟨fun t ht=>⟨(a1 t ht).1,g1.suf.subset (a1 t ht).2⟩,a2,p1,by rw [e1];simp⟩
end
section
open Go.RowKit
theorem Vi {a b:ByteArray}:(a.toList == b.toList)=true↔a=b:=by
 rw [ByteArray.toList_eq,ByteArray.toList_eq,beq_iff_eq];constructor
 ·intro h;obtain ⟨⟨x⟩⟩:=a;obtain ⟨⟨y⟩⟩:=b;have h':x=y:=h;subst h';rfl
 ·intro h;rw [h]
theorem Gz (l:List UInt8):(⟨⟨l⟩⟩:ByteArray).toList=l:=by rw [ByteArray.toList_eq]
theorem N0 {a:ByteArray} {l:List UInt8}:(a.toList == l)=true↔a=⟨⟨l⟩⟩:=by
 have h1:=Vi (a:=a) (b:=⟨⟨l⟩⟩);have h2:=Gz l;generalize ByteArray.toList ⟨⟨l⟩⟩=x at h1 h2;subst h2;exact h1
def AV:Sg→ByteArray
 | .name _=>RP
 | .var _=>Vj
 | .int _=>RQ
 | .fin=>⟨#[101,110,100]⟩
 | g=>BB g
def VZ (t:Tn):Tk:=⟨AV t.g,BB t.g,t.line⟩
def JZ (s:ByteArray):Sg:=if (s.toList == [100,111,109])=true then .dom else if (s.toList == [114,101,108])=true then .rel else .name s
def Xk (c:Int):Sg:=if c=40 then .lp else if c=41 then .rp else if c=44 then .comma else if c=59 then .semi else if c=46 then .dot else .bang
def Is (s:ByteArray):Option (Sg×Nat):=
 if E5 (Dw s 0) then (if B4 DF s≤6 then some (JZ (s.extract 0 (B4 DF s)),B4 DF s) else none)
 else if E6 (Dw s 0) then some (.var (s.extract 0 (1+B4 CU (s.extract 1 (min 2 s.size)))),1+B4 CU (s.extract 1 (min 2 s.size)))
 else if CU (Dw s 0) then (if B4 CU s≤2 then some (.int (s.extract 0 (B4 CU s)),B4 CU s) else none)
 else if J5 (Dw s 0) then some (Xk (Dw s 0),1)
 else if Ev s then some (.arrow,2) else none
theorem R6 {s:ByteArray} {n:Nat} {i:Nat} (hn:n≤s.size) (hi:i<n):Dw (s.extract 0 n) i=Dw s i:=by
 have h1:i<(s.extract 0 n).size:=by rw [Aq];omega
 have h2:i<s.size:=by omega
 unfold Dw;rw [dif_pos h1,dif_pos h2,ByteArray.getElem_extract];simp
theorem Il {s:ByteArray} (h0:0<s.size) {b:UInt8} (h:Dw s 0=b.toNat):s.extract 0 1=⟨#[b]⟩:=by
 have e:(s.extract 0 1).size=1:=by rw [Aq];omega
 apply ByteArray.ext_getElem
 ·rw [e];rfl
 ·intro i h1 h2;have hi:i=0:=by omega
  subst hi;rw [ByteArray.getElem_extract];have h3:=LX h0;rw [h] at h3;have h4:(s[0]).toNat=b.toNat:=by omega
  have h5:s[0]=b:=UInt8.toNat_inj.1 h4;show s[0+0]=b;exact h5
theorem UC {s:ByteArray} (h0:0<s.size) (h:J5 (Dw s 0)=true):BB (Xk (Dw s 0))=s.extract 0 1∧AV (Xk (Dw s 0))=s.extract 0 1:=by
 simp only [J5,Cu,beq_iff_eq] at h;rcases h with ((((h | h) | h) | h) | h) | h
 ·rw [Il h0 (b:=40) h,h];exact ⟨rfl,rfl⟩
 ·rw [Il h0 (b:=41) h,h];exact ⟨rfl,rfl⟩
 ·rw [Il h0 (b:=44) h,h];exact ⟨rfl,rfl⟩
 ·rw [Il h0 (b:=59) h,h];exact ⟨rfl,rfl⟩
 ·rw [Il h0 (b:=46) h,h];exact ⟨rfl,rfl⟩
 ·rw [Il h0 (b:=33) h,h];exact ⟨rfl,rfl⟩
theorem Sz (s:ByteArray):BB (JZ s)=s∧AV (JZ s)=FN s:=by
 unfold JZ FN;by_cases h1:(s.toList == [100,111,109])=true
 ·rw [if_pos h1,if_pos (.inl h1),N0.1 h1];exact ⟨rfl,rfl⟩
 ·rw [if_neg h1];by_cases h2:(s.toList == [114,101,108])=true
  ·rw [if_pos h2,if_pos (.inr h2),N0.1 h2];exact ⟨rfl,rfl⟩
  ·rw [if_neg h2,if_neg (fun h=>h.elim h1 h2)];exact ⟨rfl,rfl⟩
theorem Ut {s:ByteArray} (h0:0<s.size):(Is s).map (fun p=>(AV p.1,p.2))=Ni s∧∀ g n,Is s=some (g,n)→BB g=s.extract 0 n:=by
 unfold Is Ni;split
 ·split
  ·refine ⟨by simp only [A5];rw [(Sz _).2],fun g n h=>?_⟩;cases h;exact (Sz _).1
  ·exact ⟨rfl,fun g n h=>by cases h⟩
 ·split
  ·exact ⟨rfl,fun g n h=>by cases h;rfl⟩
  ·split
   ·split
    ·exact ⟨rfl,fun g n h=>by cases h;rfl⟩
    ·exact ⟨rfl,fun g n h=>by cases h⟩
   ·split
    ·rename_i hm;refine ⟨by simp only [A5];rw [(UC h0 hm).2],fun g n h=>?_⟩;cases h;exact (UC h0 hm).1
    ·split
     ·rename_i ha;refine ⟨rfl,fun g n h=>?_⟩;cases h;unfold Ev at ha;simp only [A1] at ha;exact (N0.1 ha.2).symm
     ·exact ⟨rfl,fun g n h=>by cases h⟩
def Pp:Sg→Prop
 | .name s=>E5 (Dw s 0)=true∧1≤s.size∧s.size≤6
 | .var s=>E6 (Dw s 0)=true∧1≤s.size∧s.size≤2
 | .int s=>(∀ i,i<s.size→CU (Dw s i)=true)∧1≤s.size∧s.size≤2
 | .fin=>False
 | _=>True
theorem RU {p:Int→Bool} {s:ByteArray} {i k j:Nat} (h1:i≤j) (h2:j<DC p s i k):p (Dw s j)=true:=by
 induction k generalizing i with
 | zero=>simp [DC] at h2;omega
 | succ k ih=>
  simp only [DC] at h2;split at h2
  ·rename_i hp;rcases Nat.eq_or_lt_of_le h1 with rfl | h1
   ·exact hp
   ·exact ih h1 h2
  ·omega
theorem jM {s:ByteArray} (h0:0<s.size) {g:Sg} {n:Nat} (h:Is s=some (g,n)):Pp g:=by
 unfold Is at h;split at h
 ·rename_i hl;split at h
  ·rename_i h6;cases h;have hp:=GC (p:=DF) h0 (by unfold DF;rw [hl];rfl);have hle:=FB DF s;unfold JZ;split
   ·trivial
   ·split
    ·trivial
    ·refine ⟨by rw [R6 hle (by omega)];exact hl,?_,?_⟩ <;> (rw [Aq];omega)
  ·cases h
 ·split at h
  ·rename_i hc;cases h;have hle:=FB CU (s.extract 1 (min 2 s.size));rw [Aq] at hle;refine ⟨by rw [R6 (by omega) (by omega)];exact hc,?_,?_⟩ <;> (rw [Aq];omega)
  ·split at h
   ·rename_i hd;split at h
    ·rename_i h2;cases h;have hp:=GC (p:=CU) h0 hd;have hle:=FB CU s;refine ⟨fun i hi=>?_,?_,?_⟩
     ·rw [Aq] at hi;rw [R6 hle (by omega)];exact RU (i:=0) (k:=s.size) (by omega) (show i<B4 CU s by omega)
     ·rw [Aq];omega
     ·rw [Aq];omega
    ·cases h
   ·split at h
    ·cases h;unfold Xk;repeat' split
     all_goals trivial
    ·split at h
     ·cases h;trivial
     ·cases h
def FH:Nat→ByteArray→Nat→(List Tn×Nat) ⊕ Nat
 | 0,_,l=>.inl ([],l)
 | k+1,s,l=>
  if s.size=0 then .inl ([],l)
  else if Dw s 0=10 then FH k (s.extract 1 s.size) (l+1)
  else if Dw s 0=32∨Dw s 0=9 then FH k (s.extract 1 s.size) l
  else if Dw s 0=37 then FH k (s.extract (B4 Gc s) s.size) l
  else match Is s with
   | none=>.inr l
   | some (g,n)=>match FH k (s.extract n s.size) l with
    | .inl (ts,m)=>.inl (⟨g,l⟩ :: ts,m)
    | .inr m=>.inr m
def Zx:(List Tn×Nat) ⊕ Nat→(List Tk×Nat) ⊕ Nat
 | .inl (ts,m)=>.inl (ts.map VZ,m)
 | .inr m=>.inr m
theorem Vn (k:Nat) (s:ByteArray) (l:Nat):FK k s l=Zx (FH k s l):=by
 induction k generalizing s l with
 | zero=>rfl
 | succ k ih=>
  simp only [FK,FH];split
  ·rfl
  ·rename_i hz;have h0:0<s.size:=(by omega);split
   ·exact ih ..
   ·split
    ·exact ih ..
    ·split
     ·exact ih ..
     ·obtain ⟨h1,h2⟩:=Ut h0;cases hc:Is s with
      | none=>rw [hc] at h1;rw [←h1];rfl
      | some p=>
       obtain ⟨g,n⟩:=p;rw [hc] at h1;rw [←h1];simp only [A5];rw [ih];cases FH k (s.extract n s.size) l with
       | inl q=>
        simp only [Zx,Au,VZ];rw [h2 g n hc]
       | inr q=>rfl
theorem OY {k:Nat} {s:ByteArray} {l:Nat} {ts:List Tn} {m:Nat} (h:FH k s l=.inl (ts,m)):∀ t∈ts,Pp t.g:=by
 induction k generalizing s l ts m with
 | zero=>cases h;intro t ht;cases ht
 | succ k ih=>
  simp only [FH] at h;split at h
  ·cases h;intro t ht;cases ht
  ·rename_i hz;split at h
   ·exact ih h
   ·split at h
    ·exact ih h
    ·split at h
     ·exact ih h
     ·split at h
      ·cases h
      ·rename_i g n hc;split at h
       ·rename_i us m' hr;cases h;intro t ht;rcases AG.1 ht with rfl | ht
        ·exact jM (by omega) hc
        ·exact ih hr t ht
       ·cases h
def B3 (ts:List Tn) (m:Nat):List Tn:=ts++[⟨.fin,m⟩]
theorem NI {k:Nat} {s:ByteArray} {l:Nat} {ts:List Tn} {m:Nat} (h:FH k s l=.inl (ts,m)):CV (B3 ts m):=by
 refine ⟨ts,m,rfl,fun t ht=>?_⟩;have:=OY h t ht;cases hg:t.g <;> rw [hg] at this <;> first | rfl | exact this.elim
theorem Ow (s:ByteArray) (i:Nat):ltrG s i=Dw s i:=rfl
theorem Jr {s:ByteArray} (h:∀ i,i<s.size→CU (Dw s i)=true) {k:Nat} (hk:k≤s.size) (h2:s.size≤2):0≤If s k∧If s k<100:=by
 have hd:∀ i,i<s.size→48≤Dw s i∧Dw s i≤57:=fun i hi=>by
  have:=h i hi;simp only [CU,A1,decide_eq_true_eq] at this;exact this
 match k,hk with
 | 0,_=>simp [If]
 | 1,hk=>have:=hd 0 (by omega);simp only [If,Ow];omega
 | 2,hk=>have:=hd 0 (by omega);have:=hd 1 (by omega);simp only [If,Ow];omega
 | k+3,hk=>omega
def E7:Mean:=⟨[],[],[]⟩
def Df (s:ByteArray):Except I0 (List Tn×Mean):=
 if 1200<s.size then .error (4,0)
 else match FH s.size s 1 with
  | .inr l=>.error (5,l)
  | .inl (ts,m)=>match DO (B3 ts m).length (B3 ts m) with
   | .error l=>.error (5,l)
   | .ok is=>match Bh E7 is with
    | .error f=>.error f
    | .ok me=>match GI me with
     | .error f=>.error f
     | .ok _=>.ok (B3 ts m,me)
theorem QU {k:Nat} {s:ByteArray} {l:Nat} {ts:List Tn} {m:Nat} (h:FH k s l=.inl (ts,m)):ts.length≤s.size∧m≤l+s.size∧(∀ t∈ts,t.line≤l+s.size)∧∀ t∈ts,(BB t.g).size≤s.size:=by
 induction k generalizing s l ts m with
 | zero=>cases h;simp
 | succ k ih=>
  simp only [FH] at h;split at h
  ·cases h;simp
  ·rename_i hz;have h0:0<s.size:=(by omega);have goes:∀ (n l':Nat),1≤n→l'≤l+1→(n=0∨l'≤l+n)→FH k (s.extract n s.size) l' = .inl (ts,m)→ts.length≤s.size∧m≤l+s.size∧(∀ t∈ts,t.line≤l+s.size)∧∀ t∈ts,(BB t.g).size≤s.size:=by
    intro n l' hn hl' hln hr;obtain ⟨a1,a2,a3,a4⟩:=ih hr;rw [Aq] at a1 a2 a3 a4;rcases BP s.size n with hsn | hsn
    ·have e:min s.size s.size - n=0:=(by omega);rw [e] at a1 a2 a3 a4;exact ⟨by omega,by omega,fun t ht=>by have:=a3 t ht;omega,fun t ht=>by have:=a4 t ht;omega⟩
    ·exact ⟨by omega,by omega,fun t ht=>by have:=a3 t ht;omega,fun t ht=>by have:=a4 t ht;omega⟩
   split at h
   ·exact goes 1 (l+1) (by omega) (by omega) (by omega) h
   ·split at h
    ·exact goes 1 l (by omega) (by omega) (by omega) h
    ·split at h
     ·rename_i h37;have hp:1≤B4 Gc s:=GC h0 (by rw [h37];rfl);exact goes _ l hp (by omega) (by omega) h
     ·obtain ⟨c1,c2⟩:=Ut h0;split at h
      ·cases h
      ·rename_i g n hc;rw [hc] at c1;obtain ⟨r1,r2⟩:=Nh h0 c1.symm;split at h
       ·rename_i us m' hr;cases h;obtain ⟨a1,a2,a3,a4⟩:=ih hr;rw [Aq] at a1 a2 a3 a4;refine ⟨by simp;omega,by omega,fun t ht=>?_,fun t ht=>?_⟩
        ·rcases AG.1 ht with rfl | ht
         ·simp
         ·have:=a3 t ht;omega
        ·rcases AG.1 ht with rfl | ht
         ·show (BB g).size≤_;rw [c2 g n hc,Aq];omega
         ·have:=a4 t ht;omega
       ·cases h
theorem SH:(prog.info? 129).map (fun i=>(i.zero,i.size,i.bytes))=some (some (.agg #[.string ⟨#[]⟩,.string ⟨#[]⟩,.int .i64 0]),3,40):=by kernel_rfl
def FV (ts:List Tk):List Value:=ts.flatMap fun t=>[.string t.kind,.string t.text,.int .i64 t.line]
theorem Ks (a b:List Tk):FV (a++b)=FV a++FV b:=by simp [FV]
def VC (ts:List Tk):(List Tk×Nat) ⊕ Nat→(List Tk×Nat) ⊕ Nat
 | .inl (us,m)=>.inl (ts++us,m)
 | .inr m=>.inr m
theorem RH {W:World} {a b c:Value}:∀ (j:Nat) (x:Value),[a,b,c][j]?=some x→(W.alloc (.cells #[a,b,c] 129)).cell? ((⟨W.heap.size,0,none⟩:Addr).add j)=some x:=by
 intro j x hx;rw [Addr.add_lit,Ag,(AK.new W #[a,b,c] 129).cell];match j with
 | 0=>simpa using hx
 | 1=>simpa using hx
 | 2=>simpa using hx
 | j+3=>simp at hx
def RS:ByteArray:=⟨#[101,110,100]⟩
def mW (w:World) (r:(List Tk×Nat) ⊕ Nat) (e:Ending) (w':World):Prop:=match r with
 | .inl (ts,m)=>∃ v,e=.returned v∧w'.ownsRow w.heap.size 129 3 v (ts.length+1) (FV (ts++[⟨RS,⟨#[]⟩,m⟩]))
 | .inr l=>e=Cx 5 l
theorem Vm {w:World} (s:ByteArray) (hs:s.size≤1000000):Calls prog 133 #[.string s] w fun e w'=>mW w (FK s.size s 1) e w'∧AA [] w w':=by
 obtain ⟨i0,hi0,hz0,hz1,hz2⟩:=info_parts SH;generalize hR:FK s.size s 1=R;go_in
 go_wp2_with fail
 go_loopw [0,3,4] (fun x y z wr=>∃ (k l:Nat) (s':ByteArray) (ts:List Tk),x=.string s'∧z=.int .i64 l∧s'.size≤k∧s'.size≤s.size∧ts.length+s'.size≤s.size∧l+s'.size≤s.size+1∧wr.ownsRow w.heap.size 129 3 y ts.length (FV ts)∧AA [] w wr∧VC ts (FK k s' l)=R) (fun x _ _ _=>match x with | .string t=>t.size | _=>0)
 case atStart=>exact ⟨s.size,1,s,[],rfl,rfl,AQ _,AQ _,by simp,by omega,World.ownsRow_nil ..,AA.refl _ _,by rw [←hR];cases FK s.size s 1 <;> rfl⟩
 case round=>
  obtain ⟨k,l,s',ts,rfl,rfl,hk,hs',htl,hll,own,kr,hres⟩:=hrel;by_cases h0:0<s'.size
  ·obtain ⟨k,rfl⟩:∃ k',k=k' + 1:=⟨k - 1,by omega⟩;rw [FK,if_neg (by omega)] at hres;have h0I:(0:Int)<s'.size:=(by omega);have h1I:(1:Int)≤s'.size:=(by omega);have hl:=LX h0;clear hR;by_cases c10:Dw s' 0=10
   ·rw [if_pos c10] at hres;have e10:(Dw s' 0 == 10)=true:=by rw [c10];rfl
    have Hres:=AD hres;have hsz:(s'.extract 1 s'.size).size=s'.size - 1:=by rw [Aq];omega
    clear hres c10;go_wp2_with fail
    go_roundw
    ·exact ⟨k,l+1,s'.extract 1 s'.size,ts,rfl,by simp,by omega,by omega,by omega,by omega,own,kr,Hres.out⟩
    ·show (s'.extract 1 s'.size).size<s'.size;omega
   ·rw [if_neg c10] at hres;have e10:(Dw s' 0 == 10)=false:=by rw [beq_eq_false_iff_ne];exact c10
    clear c10;by_cases c32:Dw s' 0=32
    ·rw [if_pos (.inl c32)] at hres;have e32:(Dw s' 0 == 32)=true:=by rw [c32];rfl
     have Hres:=AD hres;have hsz:(s'.extract 1 s'.size).size=s'.size - 1:=by rw [Aq];omega
     clear hres c32;go_wp2_with fail
     go_roundw
     ·exact ⟨k,l,s'.extract 1 s'.size,ts,rfl,rfl,by omega,by omega,by omega,by omega,own,kr,Hres.out⟩
     ·show (s'.extract 1 s'.size).size<s'.size;omega
    ·have e32:(Dw s' 0 == 32)=false:=by rw [beq_eq_false_iff_ne];exact c32
     by_cases c9:Dw s' 0=9
     ·rw [if_pos (.inr c9)] at hres;have e9:(Dw s' 0 == 9)=true:=by rw [c9];rfl
      have Hres:=AD hres;have hsz:(s'.extract 1 s'.size).size=s'.size - 1:=by rw [Aq];omega
      clear hres c32 c9;go_wp2_with fail
      go_roundw
      ·exact ⟨k,l,s'.extract 1 s'.size,ts,rfl,rfl,by omega,by omega,by omega,by omega,own,kr,Hres.out⟩
      ·show (s'.extract 1 s'.size).size<s'.size;omega
     ·rw [if_neg (fun h=>h.elim c32 c9)] at hres;have e9:(Dw s' 0 == 9)=false:=by rw [beq_eq_false_iff_ne];exact c9
      clear c32 c9;by_cases c37:Dw s' 0=37
      ·rw [if_pos c37] at hres;have e37:(Dw s' 0 == 37)=true:=by rw [c37];rfl
       have hp1:1≤B4 Gc s':=GC h0 (by rw [c37];rfl);have hp2:=FB Gc s';have hx:=AD (fun w=>TW (w:=w) s' (by omega));generalize B4 Gc s' = n at hres hp1 hp2 hx;have Hres:=AD hres;have hsz:(s'.extract n s'.size).size=s'.size - n:=by rw [Aq];omega
       have hnI:(n:Int)≤s'.size:=(by omega);clear hres c37;go_wp2_with fail
       refine (hx.out _).mono ?_;rintro e w1 ⟨rfl,rfl⟩;go_wp2_with fail
       go_roundw
       ·exact ⟨k,l,s'.extract n s'.size,ts,rfl,rfl,by omega,by omega,by omega,by omega,own,kr,Hres.out⟩
       ·show (s'.extract n s'.size).size<s'.size;omega
      ·rw [if_neg c37] at hres;have e37:(Dw s' 0 == 37)=false:=by rw [beq_eq_false_iff_ne];exact c37
       clear c37;have hcut:=AD (fun w=>ZX (w:=w) s' h0 (by omega) l);cases hc:Ni s' with
       | none=>
        rw [hc] at hres hcut;have Hres:=AD hres;clear hres;go_wp2_with fail
        refine (hcut.out _).mono ?_;rintro e w1 ⟨hce,rfl⟩;cases hce;refine ⟨rfl,?_,kr⟩;rw [←Hres.out];rfl
       | some r=>
        obtain ⟨kd,n⟩:=r;obtain ⟨hn1,hn2⟩:=Nh h0 hc;rw [hc] at hres hcut;have hah:VC (ts++[⟨kd,s'.extract 0 n,l⟩]) (FK k (s'.extract n s'.size) l)=R:=by
         rw [←hres]
         show _=VC ts (match FK k (s'.extract n s'.size) l with
          | .inl (ts,m)=>.inl (⟨kd,s'.extract 0 n,l⟩ :: ts,m)
          | .inr m=>.inr m)
         cases FK k (s'.extract n s'.size) l with
         | inl q=>simp [VC]
         | inr m=>rfl
        have Hah:=AD hah;have hsz:(s'.extract n s'.size).size=s'.size - n:=by rw [Aq];omega
        have hnI:(n:Int)≤s'.size:=(by omega);clear hres hah hc;obtain ⟨ay,cy,hy⟩:=Al own;subst hy;have kB:=AA.alloc [] wr (.cells #[.string kd,.string (s'.extract 0 n),.int .i64 l] 129);have ownB:=AH own kB;have hone:=RH (W:=wr) (a:=.string kd) (b:=.string (s'.extract 0 n)) (c:=.int .i64 l);have hszB:w.heap.size≤(wr.alloc (.cells #[.string kd,.string (s'.extract 0 n),.int .i64 l] 129)).heap.size:=by rw [AX];have:=kr.size;omega
        go_wp2_with fail
        refine (hcut.out _).mono ?_;rintro e w1 ⟨hce,rfl⟩;cases hce;go_wp2_with (at_builtin;refine wpList_append_own_at _ rfl _ _ 125 rfl w.heap.size 129 i0 (.agg #[.string ⟨#[]⟩,.string ⟨#[]⟩,.int .i64 0]) 3 40 underlying125 hi0 hz0 hz1 hz2 rfl (by decide) _ ts.length (FV ts) rfl ownB ⟨w1.heap.size,0,none⟩ 1 1 [.string kd,.string (s'.extract 0 n),.int .i64 l] rfl (by simp) hone (by simp [Value.oneCell']) (by unfold maxLen;omega) (by omega) hszB ?_)
        intro v' W2 own2 grow2 nil2 at2;have k2:=grownBy_keeps' grow2 (Value.slice ay ts.length cy).ownBlock.toList (fun r e=>.inl (by simp [e]));have kf:AA [] w W2:=(kr.trans kB).trans_new k2 fun j hj=>.inr (As own j (by simpa using hj)).1;go_wp2_with fail
        go_roundw
        ·exact ⟨k,l,s'.extract n s'.size,ts++[⟨kd,s'.extract 0 n,l⟩],rfl,rfl,by omega,by omega,by rw [AJ,Ah];omega,by omega,by rw [Ks,AJ];exact own2,kf,Hah.out⟩
        ·show (s'.extract n s'.size).size<s'.size;omega
  ·have hz:s'.size=0:=(by omega);have hI:¬ (0:Int)<s'.size:=(by omega);have hsc:FK k s' l=.inl ([],l):=by cases k <;> simp [FK,hz]
   rw [hsc] at hres;simp only [VC,BR] at hres;have Hres:=AD hres;clear hres hsc hR;obtain ⟨ay,cy,hy⟩:=Al own;subst hy;have kB:=AA.alloc [] wr (.cells #[.string ⟨#[101,110,100]⟩,.string ⟨#[]⟩,.int .i64 l] 129);have ownB:=AH own kB;have hone:=RH (W:=wr) (a:=.string ⟨#[101,110,100]⟩) (b:=.string ⟨#[]⟩) (c:=.int .i64 l);have hszB:w.heap.size≤(wr.alloc (.cells #[.string ⟨#[101,110,100]⟩,.string ⟨#[]⟩,.int .i64 l] 129)).heap.size:=by rw [AX];have:=kr.size;omega
   go_wp2_with (at_builtin;refine wpList_append_own_at _ rfl _ _ 125 rfl w.heap.size 129 i0 (.agg #[.string ⟨#[]⟩,.string ⟨#[]⟩,.int .i64 0]) 3 40 underlying125 hi0 hz0 hz1 hz2 rfl (by decide) _ ts.length (FV ts) rfl ownB ⟨wr.heap.size,0,none⟩ 1 1 [.string ⟨#[101,110,100]⟩,.string ⟨#[]⟩,.int .i64 l] rfl (by simp) hone (by simp [Value.oneCell']) (by unfold maxLen;omega) (by omega) hszB ?_)
   intro v' W2 own2 grow2 nil2 at2;have k2:=grownBy_keeps' grow2 (Value.slice ay ts.length cy).ownBlock.toList (fun r e=>.inl (by simp [e]));have kf:AA [] w W2:=(kr.trans kB).trans_new k2 fun j hj=>.inr (As own j (by simpa using hj)).1;go_wp2_with fail
   go_ret
   rw [←Hres.out];exact ⟨⟨_,rfl,by rw [Ks];exact own2⟩,kf⟩
end
section
def JX (ts:List Tn) (a:Dx):Prop:=C8 a.name.g=true∧a.name∈ts∧(∀ t∈a.terms,Bv t.g=true∧t∈ts)∧a.terms.length≤ts.length
def Ph (ts:List Tn):CM→Prop
 | .dom n z=>(C8 n.g=true∧n∈ts)∧J6 z.g=true∧z∈ts
 | .rel n cs=>(C8 n.g=true∧n∈ts)∧(∀ c∈cs,C8 c.g=true∧c∈ts)∧cs.length≤ts.length
 | .clause a ls=>JX ts a∧(∀ l∈ls,JX ts l.atom)∧ls.length≤ts.length
theorem JX.mono {ts us:List Tn} {a:Dx} (h:JX us a) (g:us <:+ ts):JX ts a:=by
 have hs:=g.subset;exact ⟨h.1,hs h.2.1,fun t ht=>⟨(h.2.2.1 t ht).1,hs (h.2.2.1 t ht).2⟩,At h.2.2.2 g.length_le⟩
theorem Ph.mono {ts us:List Tn} {i:CM} (h:Ph us i) (g:us <:+ ts):Ph ts i:=by
 have hs:=g.subset;cases i with
 | dom n z=>exact ⟨⟨h.1.1,hs h.1.2⟩,h.2.1,hs h.2.2⟩
 | rel n cs=>exact ⟨⟨h.1.1,hs h.1.2⟩,fun c hc=>⟨(h.2.1 c hc).1,hs (h.2.1 c hc).2⟩,At h.2.2 g.length_le⟩
 | clause a ls=>exact ⟨h.1.mono g,fun l hl=>(h.2.1 l hl).mono g,At h.2.2 g.length_le⟩
theorem aR {p:Sg→Bool} (hp:Em p) {k:Nat} {ts us r:List Tn} (hk:ts.length≤k) (e:CV ts) (h:Ef p k ts=.ok (r,us)):r.length+us.length<ts.length:=by
 induction k generalizing ts us r with
 | zero=>
  obtain ⟨t,us,rfl⟩:=e.cons;simp at hk
 | succ k ih=>
  simp only [Ef] at h;split at h
  ·rename_i hc;have g1:=Cm ES e hc;split at h
   ·cases h
   ·rename_i t us' ht;have g2:=(BK hp g1.2 ht).1;split at h
    ·cases h
    ·rename_i r' vs hr;cases h;have:=ih (by have:=g1.1;have:=g2.1;omega) g2.2 hr;have:=g1.1;have:=g2.1;rw [AU];omega
  ·split at h
   ·cases h
   ·rename_i t us' ht;cases h;have:=(BK Tc e ht).1.1;simpa using this
theorem UL {p:Sg→Bool} (hp:Em p) {ts us r:List Tn} (e:CV ts) (h:E4 p ts=.ok (r,us)):r.length+us.length<ts.length:=by
 unfold E4 at h;split at h
 ·cases h
 ·rename_i t1 us1 h1;have g1:=(BK J4 e h1).1;split at h
  ·cases h
  ·rename_i t2 us2 h2;have g2:=(BK hp g1.2 h2).1;split at h
   ·cases h
   ·rename_i r3 us3 h3;cases h;have:=aR hp (AQ _) g2.2 h3;have:=g1.1;have:=g2.1;rw [AU];omega
theorem Sk {ts us:List Tn} {a:Dx} (e:CV ts) (h:Fj ts=.ok (a,us)):JX ts a:=by
 obtain ⟨h1,_,h3,h4⟩:=eK e h;refine ⟨h3,h4,h1,?_⟩;unfold Fj at h;split at h
 ·cases h
 ·rename_i t1 us1 hh;have g1:=(BK Dg e hh).1;split at h
  ·cases h
  ·rename_i r3 us3 h3;cases h;have:=UL I6 g1.2 h3;have:=g1.1;show r3.length≤_;omega
theorem cG {ts us:List Tn} {l:Dn} (e:CV ts) (h:Nv ts=.ok (l,us)):JX ts l.atom:=by
 unfold Nv at h;split at h
 ·rename_i hc;have g1:=Cm Le e hc;split at h
  ·cases h
  ·rename_i r3 us3 h3;cases h;exact (Sk g1.2 h3).mono g1.3
 ·split at h
  ·cases h
  ·rename_i r3 us3 h3;cases h;exact Sk e h3
theorem iJ {k:Nat} {ts us:List Tn} {r:List Dn} (hk:ts.length≤k) (e:CV ts) (h:Gh k ts=.ok (r,us)):(∀ l∈r,JX ts l.atom)∧r.length+us.length<ts.length:=by
 induction k generalizing ts us r with
 | zero=>
  obtain ⟨t,us,rfl⟩:=e.cons;simp at hk
 | succ k ih=>
  simp only [Gh] at h;split at h
  ·rename_i hc;have g1:=Cm ES e hc;split at h
   ·cases h
   ·rename_i t us' ht;have g2:=Gp g1.2 ht;split at h
    ·cases h
    ·rename_i r' vs hr;cases h;obtain ⟨h1,h2⟩:=ih (by have:=g1.1;have:=g2.1;omega) g2.2 hr;refine ⟨fun l hl=>?_,?_⟩
     ·rcases AG.1 hl with rfl | hl
      ·exact (cG g1.2 ht).mono g1.3
      ·exact (h1 l hl).mono (g2.3.trans g1.3)
     ·have:=g1.1;have:=g2.1;rw [AU];omega
  ·split at h
   ·cases h
   ·rename_i t us' ht;cases h;have:=(BK Kj e ht).1.1;exact ⟨fun l hl=>(by cases hl),by simpa using this⟩
theorem jR {ts us:List Tn} {r:List Dn} (e:CV ts) (h:GB ts=.ok (r,us)):(∀ l∈r,JX ts l.atom)∧r.length+us.length<ts.length:=by
 unfold GB at h;split at h
 ·rename_i hc;have g1:=Cm KM e hc;split at h
  ·cases h
  ·rename_i t us' ht;have g2:=Gp g1.2 ht;split at h
   ·cases h
   ·rename_i r' vs hr;cases h;obtain ⟨h1,h2⟩:=iJ (AQ _) g2.2 hr;refine ⟨fun l hl=>?_,?_⟩
    ·rcases AG.1 hl with rfl | hl
     ·exact (cG g1.2 ht).mono g1.3
     ·exact (h1 l hl).mono (g2.3.trans g1.3)
    ·have:=g1.1;have:=g2.1;rw [AU];omega
 ·split at h
  ·cases h
  ·rename_i t us' ht;cases h;have:=(BK Kj e ht).1.1;exact ⟨fun l hl=>(by cases hl),by simpa using this⟩
theorem iO {ts us:List Tn} {i:CM} (e:CV ts) (h:Fx ts=.ok (i,us)):Ph ts i:=by
 unfold Fx at h;split at h
 ·rename_i hc;have g1:=Cm My e hc;split at h
  ·cases h
  ·rename_i t2 us2 h2;obtain ⟨g2,e2,p2⟩:=BK Dg g1.2 h2;split at h
   ·cases h
   ·rename_i t3 us3 h3;obtain ⟨g3,e3,p3⟩:=BK Kh g2.2 h3;split at h
    ·cases h
    ·cases h;exact ⟨⟨p2,g1.3.subset (by rw [e2];simp)⟩,p3,(g2.3.trans g1.3).subset (by rw [e3];simp)⟩
 ·split at h
  ·rename_i hc;have g1:=Cm Mi e hc;split at h
   ·cases h
   ·rename_i t2 us2 h2;obtain ⟨g2,e2,p2⟩:=BK Dg g1.2 h2;split at h
    ·cases h
    ·rename_i t3 us3 h3;have g3:=UN Dg g2.2 h3;have l3:=UL Dg g2.2 h3;split at h
     ·cases h
     ·cases h;refine ⟨⟨p2,g1.3.subset (by rw [e2];simp)⟩,fun c hc=>⟨(g3.1 c hc).1,(g2.3.trans g1.3).subset (g3.1 c hc).2⟩,?_⟩;have:=g1.1;have:=g2.1;omega
  ·split at h
   ·cases h
   ·rename_i a us1 h1;have g1:=G6 e h1;split at h
    ·cases h
    ·rename_i b us2 h2;cases h;obtain ⟨q1,q2⟩:=jR g1.2 h2;refine ⟨Sk e h1,fun l hl=>(q1 l hl).mono g1.3,?_⟩;have:=g1.1;omega
theorem UY {k:Nat} {ts:List Tn} {is:List CM} (hk:ts.length≤k) (e:CV ts) (h:DO k ts=.ok is):(∀ i∈is,Ph ts i)∧is.length≤ts.length:=by
 induction k generalizing ts is with
 | zero=>
  obtain ⟨t,us,rfl⟩:=e.cons;simp at hk
 | succ k ih=>
  simp only [DO] at h;split at h
  ·cases h;exact ⟨fun i hi=>(by cases hi),by simp⟩
  ·split at h
   ·cases h
   ·rename_i i us hi;have g1:=O3 e hi;split at h
    ·cases h
    ·rename_i r hr;cases h;obtain ⟨h1,h2⟩:=ih (by have:=g1.1;omega) g1.2 hr;refine ⟨fun j hj=>?_,?_⟩
     ·rcases AG.1 hj with rfl | hj
      ·exact iO e hi
      ·exact (h1 j hj).mono g1.3
     ·have:=g1.1;rw [AU];omega
theorem RW {m m':Mean} {is:List CM} {p:ByteArray→Prop} (hm:∀ r∈m.rels,p r.1) (hi:∀ i∈is,∀ n cs,i=.rel n cs→p (BB n.g)) (h:Bh m is=.ok m'):∀ r∈m'.rels,p r.1:=by
 induction is generalizing m with
 | nil=>cases h;exact hm
 | cons i is ih=>
  simp only [Bh] at h;split at h
  ·cases h
  ·rename_i m1 h1;refine ih ?_ (fun j hj=>hi j (by simp [hj])) h;cases i with
   | dom n z=>
    simp only [D0,addDom] at h1;split at h1
    ·cases h1
    ·split at h1
     ·cases h1
     ·split at h1
      ·cases h1
      ·cases h1;exact hm
   | rel n cs=>
    simp only [D0,addRel] at h1;split at h1
    ·cases h1
    ·split at h1
     ·cases h1
     ·split at h1
      ·cases h1
      ·cases h1;intro r hr;rcases AC.1 hr with q | q
       ·exact hm r q
       ·have e:r=_:=(by simpa using q);rw [e];exact hi _ (by simp) n cs rfl
   | clause a ls=>
    obtain ⟨x,_,_,_,h4⟩:=Je (by simpa [D0] using h1);rw [h4];exact hm
end
end Go.Proofs.YtgjomknpjigkhaaGreatDoor
