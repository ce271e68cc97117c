import Derived.Test.YtgjomknpjigkhaaGreatDoorS10
namespace Go.Proofs.YtgjomknpjigkhaaGreatDoor
set_option maxRecDepth 100000
set_option maxHeartbeats 4000000
section
inductive Sg where
 | dom | rel | lp | rp | comma | semi | dot | bang | arrow | fin
 | name (s:ByteArray)
 | var (s:ByteArray)
 | int (s:ByteArray)
structure Tn where
 g:Sg
 line:Nat
def isNameG:Sg→Bool | .name _=>true | _=>false
def isTermG:Sg→Bool | .var _=>true | .int _=>true | _=>false
def isIntG:Sg→Bool | .int _=>true | _=>false
def isVarG:Sg→Bool | .var _=>true | _=>false
def isDomG:Sg→Bool | .dom=>true | _=>false
def isRelG:Sg→Bool | .rel=>true | _=>false
def isLpG:Sg→Bool | .lp=>true | _=>false
def isRpG:Sg→Bool | .rp=>true | _=>false
def isCommaG:Sg→Bool | .comma=>true | _=>false
def isSemiG:Sg→Bool | .semi=>true | _=>false
def isDotG:Sg→Bool | .dot=>true | _=>false
def isBangG:Sg→Bool | .bang=>true | _=>false
def isArrowG:Sg→Bool | .arrow=>true | _=>false
def isFinG:Sg→Bool | .fin=>true | _=>false
def takeG (p:Sg→Bool):List Tn→Except Nat (Tn×List Tn)
 | []=>.error 0
 | t :: ts=>if p t.g then .ok (t,ts) else .error t.line
def sees (p:Sg→Bool):List Tn→Bool
 | []=>false
 | t :: _=>p t.g
structure AtomI where
 name:Tn
 terms:List Tn
structure LitI where
 atom:AtomI
 no:Bool
inductive ItemI where
 | dom (name size:Tn)
 | rel (name:Tn) (cols:List Tn)
 | clause (head:AtomI) (lits:List LitI)
def restG (p:Sg→Bool):Nat→List Tn→Except Nat (List Tn×List Tn)
 | 0,ts=>.ok ([],ts)
 | k+1,ts=>
  if sees isCommaG ts then
   match takeG p ts.tail with
   | .error l=>.error l
   | .ok (t,us)=>match restG p k us with
    | .error l=>.error l
    | .ok (r,vs)=>.ok (t :: r,vs)
  else match takeG isRpG ts with
   | .error l=>.error l
   | .ok (_,us)=>.ok ([],us)
def listG (p:Sg→Bool) (ts:List Tn):Except Nat (List Tn×List Tn):=
 match takeG isLpG ts with
 | .error l=>.error l
 | .ok (_,us)=>match takeG p us with
  | .error l=>.error l
  | .ok (t,vs)=>match restG p vs.length vs with
   | .error l=>.error l
   | .ok (r,xs)=>.ok (t :: r,xs)
def atomG (ts:List Tn):Except Nat (AtomI×List Tn):=
 match takeG isNameG ts with
 | .error l=>.error l
 | .ok (n,us)=>match listG isTermG us with
  | .error l=>.error l
  | .ok (r,vs)=>.ok (⟨n,r⟩,vs)
def litG (ts:List Tn):Except Nat (LitI×List Tn):=
 if sees isBangG ts then
  match atomG ts.tail with
  | .error l=>.error l
  | .ok (a,us)=>.ok (⟨a,true⟩,us)
 else match atomG ts with
  | .error l=>.error l
  | .ok (a,us)=>.ok (⟨a,false⟩,us)
def litsG:Nat→List Tn→Except Nat (List LitI×List Tn)
 | 0,ts=>.ok ([],ts)
 | k+1,ts=>
  if sees isCommaG ts then
   match litG ts.tail with
   | .error l=>.error l
   | .ok (t,us)=>match litsG k us with
    | .error l=>.error l
    | .ok (r,vs)=>.ok (t :: r,vs)
  else match takeG isDotG ts with
   | .error l=>.error l
   | .ok (_,us)=>.ok ([],us)
def bodyG (ts:List Tn):Except Nat (List LitI×List Tn):=
 if sees isArrowG ts then
  match litG ts.tail with
  | .error l=>.error l
  | .ok (t,us)=>match litsG us.length us with
   | .error l=>.error l
   | .ok (r,vs)=>.ok (t :: r,vs)
 else match takeG isDotG ts with
  | .error l=>.error l
  | .ok (_,us)=>.ok ([],us)
def itemG (ts:List Tn):Except Nat (ItemI×List Tn):=
 if sees isDomG ts then
  match takeG isNameG ts.tail with
  | .error l=>.error l
  | .ok (n,us)=>match takeG isIntG us with
   | .error l=>.error l
   | .ok (i,vs)=>match takeG isSemiG vs with
    | .error l=>.error l
    | .ok (_,xs)=>.ok (.dom n i,xs)
 else if sees isRelG ts then
  match takeG isNameG ts.tail with
  | .error l=>.error l
  | .ok (n,us)=>match listG isNameG us with
   | .error l=>.error l
   | .ok (c,vs)=>match takeG isSemiG vs with
    | .error l=>.error l
    | .ok (_,xs)=>.ok (.rel n c,xs)
 else match atomG ts with
  | .error l=>.error l
  | .ok (a,us)=>match bodyG us with
   | .error l=>.error l
   | .ok (b,vs)=>.ok (.clause a b,vs)
def itemsG:Nat→List Tn→Except Nat (List ItemI)
 | 0,_=>.ok []
 | k+1,ts=>
  if sees isFinG ts then .ok []
  else match itemG ts with
   | .error l=>.error l
   | .ok (i,us)=>match itemsG k us with
    | .error l=>.error l
    | .ok r=>.ok (i :: r)
def Ended (ts:List Tn):Prop:=∃ us l,ts=us++[⟨.fin,l⟩]∧∀ t∈us,isFinG t.g=false
theorem Ended.cons {ts:List Tn} (h:Ended ts):∃ t us,ts=t :: us:=by
 obtain ⟨us,l,rfl,_⟩:=h
 cases us with
 | nil=>exact ⟨_,_,rfl⟩
 | cons t us=>exact ⟨t,us++[⟨.fin,l⟩],rfl⟩
theorem Ended.tail {t:Tn} {ts:List Tn} (h:Ended (t :: ts)) (hf:isFinG t.g=false):Ended ts:=by
 obtain ⟨us,l,he,hn⟩:=h
 cases us with
 | nil=>simp at he;rw [he.1] at hf;cases hf
 | cons u us=>
  simp at he
  exact ⟨us,l,he.2,fun t ht=>hn t (by simp [ht])⟩
def NoFin (p:Sg→Bool):Prop:=p .fin=false
theorem NoFin.no {p:Sg→Bool} (h:NoFin p) {g:Sg} (hg:p g=true):isFinG g=false:=by
 cases g <;> first | rfl | (rw [h] at hg;cases hg)
structure GoesG (ts us:List Tn):Prop where
 less:us.length<ts.length
 ended:Ended us
 suf:us <:+ ts
theorem GoesG.trans {a b c:List Tn} (h:GoesG a b) (k:GoesG b c):GoesG a c:=⟨by have:=h.1;have:=k.1;omega,k.2,k.3.trans h.3⟩
theorem takeG_goes {p:Sg→Bool} (hp:NoFin p) {ts us:List Tn} {t:Tn} (e:Ended ts) (h:takeG p ts=.ok (t,us)):GoesG ts us∧ts=t :: us∧p t.g=true:=by
 cases ts with
 | nil=>cases h
 | cons x ts=>
  simp only [takeG] at h
  split at h
  ·rename_i hx
   cases h
   exact ⟨⟨by simp,e.tail (hp.no hx),List.suffix_cons _ _⟩,rfl,hx⟩
  ·cases h
theorem sees_goes {p:Sg→Bool} (hp:NoFin p) {ts:List Tn} (e:Ended ts) (h:sees p ts=true):GoesG ts ts.tail:=by
 cases ts with
 | nil=>cases h
 | cons x ts=>exact ⟨by simp,e.tail (hp.no h),List.suffix_cons _ _⟩
theorem takeG_sees {p:Sg→Bool} {ts:List Tn} (h:sees p ts=true):∃ t,ts=t :: ts.tail∧p t.g=true∧takeG p ts=.ok (t,ts.tail):=by
 cases ts with
 | nil=>cases h
 | cons x ts=>
  have hx:p x.g=true:=h
  exact ⟨x,rfl,h,by simp only [takeG];rw [if_pos hx];rfl⟩
theorem comma_noFin:NoFin isCommaG:=rfl
theorem rp_noFin:NoFin isRpG:=rfl
theorem lp_noFin:NoFin isLpG:=rfl
theorem name_noFin:NoFin isNameG:=rfl
theorem term_noFin:NoFin isTermG:=rfl
theorem int_noFin:NoFin isIntG:=rfl
theorem semi_noFin:NoFin isSemiG:=rfl
theorem dot_noFin:NoFin isDotG:=rfl
theorem bang_noFin:NoFin isBangG:=rfl
theorem arrow_noFin:NoFin isArrowG:=rfl
theorem dom_noFin:NoFin isDomG:=rfl
theorem rel_noFin:NoFin isRelG:=rfl
theorem restG_goes {p:Sg→Bool} (hp:NoFin p) {k:Nat} {ts us:List Tn} {r:List Tn} (hk:ts.length≤k) (e:Ended ts) (h:restG p k ts=.ok (r,us)):GoesG ts us:=by
 induction k generalizing ts us r with
 | zero=>
  obtain ⟨t,us,rfl⟩:=e.cons
  simp at hk
 | succ k ih=>
  simp only [restG] at h
  split at h
  ·rename_i hc
   have g1:=sees_goes comma_noFin e hc
   split at h
   ·cases h
   ·rename_i t us' ht
    have g2:=(takeG_goes hp g1.2 ht).1
    split at h
    ·cases h
    ·rename_i r' vs hr
     cases h
     exact (g1.trans g2).trans (ih (by have:=g1.1;have:=g2.1;omega) g2.2 hr)
  ·split at h
   ·cases h
   ·rename_i t us' ht
    cases h
    exact (takeG_goes rp_noFin e ht).1
theorem listG_goes {p:Sg→Bool} (hp:NoFin p) {ts us:List Tn} {r:List Tn} (e:Ended ts) (h:listG p ts=.ok (r,us)):GoesG ts us:=by
 unfold listG at h
 split at h
 ·cases h
 ·rename_i t1 us1 h1
  have g1:=(takeG_goes lp_noFin e h1).1
  split at h
  ·cases h
  ·rename_i t2 us2 h2
   have g2:=(takeG_goes hp g1.2 h2).1
   split at h
   ·cases h
   ·rename_i r3 us3 h3
    cases h
    exact (g1.trans g2).trans (restG_goes hp (Nat.le_refl _) g2.2 h3)
theorem atomG_goes {ts us:List Tn} {a:AtomI} (e:Ended ts) (h:atomG ts=.ok (a,us)):GoesG ts us:=by
 unfold atomG at h
 split at h
 ·cases h
 ·rename_i t1 us1 h1
  have g1:=(takeG_goes name_noFin e h1).1
  split at h
  ·cases h
  ·rename_i r3 us3 h3
   cases h
   exact g1.trans (listG_goes term_noFin g1.2 h3)
theorem litG_goes {ts us:List Tn} {a:LitI} (e:Ended ts) (h:litG ts=.ok (a,us)):GoesG ts us:=by
 unfold litG at h
 split at h
 ·rename_i hc
  have g1:=sees_goes bang_noFin e hc
  split at h
  ·cases h
  ·rename_i r3 us3 h3
   cases h
   exact g1.trans (atomG_goes g1.2 h3)
 ·split at h
  ·cases h
  ·rename_i r3 us3 h3
   cases h
   exact atomG_goes e h3
theorem litsG_goes {k:Nat} {ts us:List Tn} {r:List LitI} (hk:ts.length≤k) (e:Ended ts) (h:litsG k ts=.ok (r,us)):GoesG ts us:=by
 induction k generalizing ts us r with
 | zero=>
  obtain ⟨t,us,rfl⟩:=e.cons
  simp at hk
 | succ k ih=>
  simp only [litsG] at h
  split at h
  ·rename_i hc
   have g1:=sees_goes comma_noFin e hc
   split at h
   ·cases h
   ·rename_i t us' ht
    have g2:=litG_goes g1.2 ht
    split at h
    ·cases h
    ·rename_i r' vs hr
     cases h
     exact (g1.trans g2).trans (ih (by have:=g1.1;have:=g2.1;omega) g2.2 hr)
  ·split at h
   ·cases h
   ·rename_i t us' ht
    cases h
    exact (takeG_goes dot_noFin e ht).1
theorem bodyG_goes {ts us:List Tn} {r:List LitI} (e:Ended ts) (h:bodyG ts=.ok (r,us)):GoesG ts us:=by
 unfold bodyG at h
 split at h
 ·rename_i hc
  have g1:=sees_goes arrow_noFin e hc
  split at h
  ·cases h
  ·rename_i t us' ht
   have g2:=litG_goes g1.2 ht
   split at h
   ·cases h
   ·rename_i r' vs hr
    cases h
    exact (g1.trans g2).trans (litsG_goes (Nat.le_refl _) g2.2 hr)
 ·split at h
  ·cases h
  ·rename_i t us' ht
   cases h
   exact (takeG_goes dot_noFin e ht).1
theorem itemG_goes {ts us:List Tn} {i:ItemI} (e:Ended ts) (h:itemG ts=.ok (i,us)):GoesG ts us:=by
 unfold itemG at h
 split at h
 ·rename_i hc
  have g1:=sees_goes dom_noFin e hc
  split at h
  ·cases h
  ·rename_i t2 us2 h2
   have g2:=(takeG_goes name_noFin g1.2 h2).1
   split at h
   ·cases h
   ·rename_i t3 us3 h3
    have g3:=(takeG_goes int_noFin g2.2 h3).1
    split at h
    ·cases h
    ·rename_i t4 us4 h4
     cases h
     exact ((g1.trans g2).trans g3).trans (takeG_goes semi_noFin g3.2 h4).1
 ·split at h
  ·rename_i hc
   have g1:=sees_goes rel_noFin e hc
   split at h
   ·cases h
   ·rename_i t2 us2 h2
    have g2:=(takeG_goes name_noFin g1.2 h2).1
    split at h
    ·cases h
    ·rename_i t3 us3 h3
     have g3:=listG_goes name_noFin g2.2 h3
     split at h
     ·cases h
     ·rename_i t4 us4 h4
      cases h
      exact ((g1.trans g2).trans g3).trans (takeG_goes semi_noFin g3.2 h4).1
  ·split at h
   ·cases h
   ·rename_i a us1 h1
    have g1:=atomG_goes e h1
    split at h
    ·cases h
    ·rename_i b us2 h2
     cases h
     exact g1.trans (bodyG_goes g1.2 h2)
end
section
def ltrG (s:ByteArray) (i:Nat):Int:=if h:i<s.size then (s[i].toNat:Int) else 0
def valTo (s:ByteArray):Nat→Int
 | 0=>0
 | k+1=>10 * valTo s k+(ltrG s k - 48)
def txt:Sg→ByteArray
 | .dom=>⟨#[100,111,109]⟩ | .rel=>⟨#[114,101,108]⟩ | .lp=>⟨#[40]⟩ | .rp=>⟨#[41]⟩ | .comma=>⟨#[44]⟩ | .semi=>⟨#[59]⟩
 | .dot=>⟨#[46]⟩ | .bang=>⟨#[33]⟩ | .arrow=>⟨#[58,45]⟩ | .fin=>⟨#[]⟩
 | .name s=>s | .var s=>s | .int s=>s
def numOf:Sg→Int
 | .int s=>valTo s s.size
 | _=>0
structure TermM where
 isVar:Bool
 num:Int
structure AtomM where
 rel:Nat
 terms:List TermM
structure ClauseM where
 head:AtomM
 lits:List (AtomM×Bool)
 line:Nat
structure Mean where
 doms:List (ByteArray×Int)
 rels:List (ByteArray×List Nat)
 clauses:List ClauseM
abbrev Flt:=Nat×Nat
abbrev Scope:=List (ByteArray×Nat)
def placeIn {A:Type} (l:List (ByteArray×A)) (s:ByteArray):Option Nat:=l.findIdx? (fun p=>decide (p.1=s))
def Mean.dom (m:Mean) (s:ByteArray):Option Nat:=placeIn m.doms s
def Mean.rel (m:Mean) (s:ByteArray):Option Nat:=placeIn m.rels s
def Mean.taken (m:Mean) (s:ByteArray):Bool:=(m.dom s).isSome || (m.rel s).isSome
def Mean.size (m:Mean) (d:Nat):Int:=(m.doms[d]?.map (·.2)).getD 0
def Mean.cols (m:Mean) (r:Nat):List Nat:=(m.rels[r]?.map (·.2)).getD []
def addDom (m:Mean) (n i:Tn):Except Flt Mean:=
 if m.doms.length=4 then .error (6,n.line)
 else if m.taken (txt n.g) then .error (7,n.line)
 else if numOf i.g<1∨8<numOf i.g then .error (9,i.line)
 else .ok { m with doms:=m.doms++[(txt n.g,numOf i.g)] }
def colsS (m:Mean):Nat→List Tn→Except Flt (List Nat)
 | _,[]=>.ok []
 | k,c :: cs=>
  if k=3 then .error (6,c.line)
  else match m.dom (txt c.g) with
   | none=>.error (8,c.line)
   | some d=>match colsS m (k+1) cs with
    | .error f=>.error f
    | .ok ds=>.ok (d :: ds)
def addRel (m:Mean) (n:Tn) (cs:List Tn):Except Flt Mean:=
 if m.rels.length=6 then .error (6,n.line)
 else if m.taken (txt n.g) then .error (7,n.line)
 else match colsS m 0 cs with
  | .error f=>.error f
  | .ok ds=>.ok { m with rels:=m.rels++[(txt n.g,ds)] }
def termS (m:Mean) (sc:Scope) (t:Tn) (d:Nat):Except Flt (TermM×Scope):=
 if isVarG t.g then
  match placeIn sc (txt t.g) with
  | some p=>if (sc[p]?.map (·.2)).getD 0≠d then .error (11,t.line) else .ok (⟨true,p⟩,sc)
  | none=>if sc.length=4 then .error (6,t.line) else .ok (⟨true,sc.length⟩,sc++[(txt t.g,d)])
 else if m.size d≤numOf t.g then .error (9,t.line) else .ok (⟨false,numOf t.g⟩,sc)
def termsS (m:Mean) (sc:Scope):List Tn→List Nat→Except Flt (List TermM×Scope)
 | t :: ts,d :: ds=>match termS m sc t d with
  | .error f=>.error f
  | .ok (x,sc')=>match termsS m sc' ts ds with
   | .error f=>.error f
   | .ok (xs,sc'')=>.ok (x :: xs,sc'')
 | _,_=>.ok ([],sc)
def atomS (m:Mean) (sc:Scope) (a:AtomI):Except Flt (AtomM×Scope):=
 match m.rel (txt a.name.g) with
 | none=>.error (8,a.name.line)
 | some r=>if a.terms.length≠(m.cols r).length then .error (10,a.name.line)
  else match termsS m sc a.terms (m.cols r) with
   | .error f=>.error f
   | .ok (xs,sc')=>.ok (⟨r,xs⟩,sc')
def litsS (m:Mean) (sc:Scope):Nat→List LitI→Except Flt (List (AtomM×Bool)×Scope)
 | _,[]=>.ok ([],sc)
 | k,l :: ls=>
  if k=4 then .error (6,l.atom.name.line)
  else match atomS m sc l.atom with
   | .error f=>.error f
   | .ok (x,sc')=>match litsS m sc' (k+1) ls with
    | .error f=>.error f
    | .ok (xs,sc'')=>.ok ((x,l.no) :: xs,sc'')
def addClause (m:Mean) (h:AtomI) (ls:List LitI):Except Flt Mean:=
 if m.clauses.length=52 then .error (6,h.name.line)
 else match atomS m [] h with
  | .error f=>.error f
  | .ok (x,sc)=>match litsS m sc 0 ls with
   | .error f=>.error f
   | .ok (xs,_)=>.ok { m with clauses:=m.clauses++[⟨x,xs,h.name.line⟩] }
def addItem (m:Mean):ItemI→Except Flt Mean
 | .dom n i=>addDom m n i
 | .rel n cs=>addRel m n cs
 | .clause h ls=>addClause m h ls
def senseS (m:Mean):List ItemI→Except Flt Mean
 | []=>.ok m
 | i :: is=>match addItem m i with
  | .error f=>.error f
  | .ok m'=>senseS m' is
end
section
open Go.RowKit
def tbit (σ:Int→Bool) (t:TermM) (i:Nat):Bool:=if t.isVar then σ (3 * t.num.toNat+i:Nat) else t.num.toNat.testBit (2 - i)
def tnum (σ:Int→Bool) (t:TermM):Nat:=if t.isVar then numA σ t.num.toNat else t.num.toNat
def TmOk (t:TermM):Prop:=0≤t.num∧t.num<8∧(t.isVar=true→t.num<4)
def tmV (t:TermM):Value:=.agg #[.bool t.isVar,.int .i64 t.num]
theorem shr_bit (m k:Nat) (hm:m<8):(bits BinOp.and IntKind.i64 ((m:Int) / 2 ^ k) 1 == 1)=m.testBit k:=by
 have h:=bit_test (a:=(m:Int)) (v:=(k:Int)) (by omega) (by omega)
 rw [Int.toNat_natCast] at h
 rw [h,bitN]
theorem bit_const {w:World} (bb m i:Nat) (hm:m<8) (hi:i<3):Calls Tryz.prog 214 #[.pointer (some ⟨bb,0,none⟩),.agg #[.bool false,.int .i64 (m:Int)],.int .i64 (i:Int)] w fun e w'=>e=.returned (.int .i64 (if m.testBit (2 - i) then 1 else 0))∧Keeps [] w w':=by
 have h2:=shr_bit m (2 - i) hm
 obtain ⟨k,hk⟩:∃ k:Nat,2 - i=k:=⟨_,rfl⟩
 have hkI:IntKind.i64.wrap (2 - (i:Int))=(k:Int):=by rw [IntKind.wrap_i64];omega
 have hk3:k<3:=by omega
 rw [hk] at h2 ⊢
 have hmI:(m:Int)<8:=by omega
 clear hk hi
 cases hb:m.testBit k
 all_goals
  rw [hb] at h2
  go_enter Tryz.func214,Tryz.ntmps214
  go_wp2
  go_ret
  exact ⟨rfl,Keeps.alloc [] w _⟩
theorem bit_var {w:World} {B:SB} {S:ST} (hE:EngS w B S) {bb:Nat} (hb:BsAt w bb B) (m i:Nat) (hm:m<4) (hi:i<3) (hl:S.next+1<lim):Calls Tryz.prog 214 #[.pointer (some ⟨bb,0,none⟩),.agg #[.bool true,.int .i64 (m:Int)],.int .i64 (i:Int)] w (OutB B w S (fun σ=>σ (3 * m+i:Nat)=true) 1):=by
 have kA:=Keeps.alloc [] w (.cells #[.bool true,.int .i64 (m:Int)] 220)
 have hT:=CellsAt.new w #[.bool true,.int .i64 (m:Int)] 220
 have hE1:=hE.keeps0 kA
 have hb1:=hb.keeps kA (by simp)
 have hc1:=hb1.cell
 have hv:=hide (fun W=>variable_calls W m i (by omega) (by omega))
 have hx:=hide (fun (W:World) (k:Keeps [] (w.alloc (.cells #[.bool true,.int .i64 (m:Int)] 220)) W)=>var_E (hE1.keeps0 k) (3 * m+i) (by omega) hl)
 generalize hW:w.alloc (.cells #[.bool true,.int .i64 (m:Int)] 220)=W at *
 generalize hz:w.heap.size=z at *
 generalize 3 * m+i=q at *
 have c0:=hT.cell 0
 have c1:=hT.cell 1
 simp at c0 c1
 go_enter Tryz.func214,Tryz.ntmps214
 go_wp2_with fail
 have hv2:=hide (hv.out W.drew)
 refine wp_quietV 8 (by kernel_rfl) (by kernel_rfl) ?_
 simp only [List.take_succ_cons,List.take_zero,List.drop_succ_cons,List.drop_zero]
 repeat (first | go_big_quiet_step (fail) | (go_big_quiet_want;go_big_quiet_op;apply Exists.intro;refine And.intro (hv2.out) ?_;go_big_quiet_on))
 refine wpQuiet_nil ?_
 go_wp2_with fail
 refine (hx.out _ (Keeps.drew [] W)).mono ?_
 rintro e W1 ⟨r,S1,rfl,hE2,k2,x2,n2,hr⟩
 go_wp2_with fail
 go_ret
 exact ⟨r,S1,rfl,hE2,((kA.trans (Keeps.drew [] W)).mono (by simp)).trans k2,x2,n2,hr⟩
theorem repB_const {S:ST} (b:Bool):RepB S (if b then 1 else 0) (fun _=>b=true):=by
 cases b
 ·exact ⟨ok_zero S,fun σ=>by simp [den_zero]⟩
 ·exact ⟨ok_one S,fun σ=>by simp [den_one]⟩
theorem bit_calls {w:World} {B:SB} {S:ST} (hE:EngS w B S) {bb:Nat} (hb:BsAt w bb B) (t:TermM) (ht:TmOk t) (i:Nat) (hi:i<3) (hl:S.next+1<lim):Calls Tryz.prog 214 #[.pointer (some ⟨bb,0,none⟩),tmV t,.int .i64 (i:Int)] w (OutB B w S (fun σ=>tbit σ t i=true) 1):=by
 obtain ⟨h0,h8,h4⟩:=ht
 obtain ⟨v,num⟩:=t
 simp only at h0 h8 h4
 obtain ⟨m,rfl⟩:=Int.eq_ofNat_of_zero_le h0
 cases v with
 | true=>exact bit_var hE hb m i (by have:=h4 rfl;omega) hi hl
 | false=>
  refine (bit_const bb m i (by omega) hi).mono ?_
  rintro e w' ⟨rfl,k⟩
  exact ⟨_,S,rfl,hE.keeps0 k,k.mono (by simp),Ext.refl S,by omega,repB_const _⟩
theorem num_eq {a b c a' b' c':Bool}:4 * a.toNat+2 * b.toNat+c.toNat=4 * a'.toNat+2 * b'.toNat+c'.toNat↔(a=a'∧b=b'∧c=c'):=by
 cases a <;> cases b <;> cases c <;> cases a' <;> cases b' <;> cases c' <;> decide
theorem num_bits:∀ m:Nat,m<8→m=4 * (m.testBit 2).toNat+2 * (m.testBit 1).toNat+(m.testBit 0).toNat:=by decide
theorem tnum_bits (σ:Int→Bool) {t:TermM} (ht:TmOk t):tnum σ t=4 * (tbit σ t 0).toNat+2 * (tbit σ t 1).toNat+(tbit σ t 2).toNat:=by
 obtain ⟨h0,h8,_⟩:=ht
 unfold tnum tbit
 cases t.isVar with
 | true=>simp only [if_true];rfl
 | false=>simp only [Bool.false_eq_true,if_false];exact num_bits _ (by omega)
def eqTo (col:Nat) (t:TermM) (j:Nat) (σ:Int→Bool):Prop:=∀ i,i<j→(σ (3 * col+i:Nat)=true↔tbit σ t i=true)
theorem eqTo_all (col:Nat) {t:TermM} (ht:TmOk t) (σ:Int→Bool):eqTo col t 3 σ↔numA σ col=tnum σ t:=by
 rw [tnum_bits σ ht]
 unfold numA
 rw [num_eq]
 constructor
 ·intro h
  exact ⟨Bool.eq_iff_iff.2 (h 0 (by omega)),Bool.eq_iff_iff.2 (h 1 (by omega)),Bool.eq_iff_iff.2 (h 2 (by omega))⟩
 ·rintro ⟨h0,h1,h2⟩ i hi
  match i with
  | 0=>exact Bool.eq_iff_iff.1 h0
  | 1=>exact Bool.eq_iff_iff.1 h1
  | 2=>exact Bool.eq_iff_iff.1 h2
  | i+3=>omega
theorem equal_calls {w:World} {B:SB} {S:ST} (hE:EngS w B S) {bb:Nat} (hb:BsAt w bb B) (col:Nat) (hcol:col<4) (t:TermM) (ht:TmOk t) (hl:S.next+40000<lim):Calls Tryz.prog 149 #[.pointer (some ⟨bb,0,none⟩),.int .i64 (col:Int),tmV t] w (OutB B w S (fun σ=>numA σ col=tnum σ t) 36861):=by
 have kA:=Keeps.alloc [] w (.cells #[.bool t.isVar,.int .i64 t.num] 220)
 have hT:=CellsAt.new w #[.bool t.isVar,.int .i64 t.num] 220
 have hE1:=hE.keeps0 kA
 have hb1:=hb.keeps kA (by simp)
 have hzo:w.heap.size∉B.own:=hE.sat.fresh (Nat.le_refl _)
 have Hl:=hide hl
 have Ht:=hide ht
 clear hl ht
 unfold tmV
 have hEq:=fun σ=>eqTo_all col Ht.out σ
 obtain ⟨v,m⟩:=t
 simp only at hT kA hE1 hb1
 generalize hW:w.alloc (.cells #[.bool v,.int .i64 m] 220)=W at hT kA hE1 hb1
 go_enter Tryz.func149,Tryz.ntmps149
 go_wp2_with fail
 generalize hz:w.heap.size=z at *
 go_loopw [7,10] (fun x y wr=>∃ (r:Int) (j:Nat) (S1:ST),x=.int .i64 r∧y=.int .i64 j∧j≤3∧EngS wr B S1∧Keeps B.own W wr∧Ext S S1∧S1.next≤S.next+12287 * j∧RepB S1 r (eqTo col ⟨v,m⟩ j)) (fun _ y _=>((3:Int) - intOf y).toNat)
 case atStart=>exact ⟨1,0,S,rfl,rfl,by omega,hE1,Keeps.refl _ _,Ext.refl S,by omega,ok_one S,fun σ=>by simp [den_one,eqTo]⟩
 case round=>
  obtain ⟨r,j,S1,rfl,rfl,hj,hEr,hk,hx,hn,hr⟩:=hrel
  have hbr:=hb1.own hk
  have hTr:=hT.keeps hk hzo
  by_cases hj3:j<3
  ·have hjI:(j:Int)<3:=by omega
   have hv:=hide (fun W=>variable_calls W col j (by omega) (by omega))
   have h1:=hide (fun (W:World) (k:Keeps [] wr W)=>var_E (hEr.keeps0 k) (3 * col+j) (by omega) (by have:=Hl.out;omega))
   have g0:=hbr.cell
   have g1:=hTr.cell 0
   have g2:=hTr.cell 1
   simp at g1 g2
   have Hn:=hide hn
   clear hn
   go_wp2_with fail
   go_region_held3 (fun w'=>w'.cell? ⟨bb,4,none⟩=some (.pointer (some ⟨B.b,0,none⟩))∧w'.cell? ⟨z,0,none⟩=some (.bool v)∧w'.cell? ⟨z,1,none⟩=some (.int .i64 m)) (first | exact ⟨g0,g1,g2⟩ | exact ⟨a0,a1,a2⟩ | exact ⟨b0,b1,b2⟩ | exact ⟨d0,d1,d2⟩)
    (first
    | (go_at_call 144
       refine (hv.out _).mono ?_
       rintro e W2 ⟨rfl,rfl⟩)
    | (go_at_call 145
       refine (h1.out _ (Keeps.drew [] _)).mono ?_
       rintro e W3 ⟨r1,S2,rfl,hE3,k3,x3,n3,hr3⟩
       have hb3:=(hbr.keeps (Keeps.drew [] _) (by simp)).own k3
       have hT3:=(hTr.keeps (Keeps.drew [] _) (by simp)).keeps k3 hzo
       have a0:=hb3.cell
       have a1:=hT3.cell 0
       have a2:=hT3.cell 1
       simp at a1 a2)
    | (go_at_call 214
       refine (bit_calls hE3 hb3 ⟨v,m⟩ Ht.out j hj3 (by have:=Hl.out;have:=Hn.out;omega)).mono ?_
       rintro e W4 ⟨r2,S3,rfl,hE4,k4,x4,n4,hr4⟩
       have hb4:=hb3.own k4
       have hT4:=hT3.keeps k4 hzo
       have b0:=hb4.cell
       have b1:=hT4.cell 0
       have b2:=hT4.cell 1
       simp at b1 b2)
    | (go_at_call 213
       refine (xor_E hE4 (hr3.ext x4 hE3.wf hE4.wf) hr4 (by have:=Hl.out;have:=Hn.out;omega)).mono ?_
       rintro e W5 ⟨r3,S4,rfl,hE5,k5,x5,n5,hr5⟩
       have hb5:=hb4.own k5
       have hT5:=hT4.keeps k5 hzo
       have d0:=hb5.cell
       have d1:=hT5.cell 0
       have d2:=hT5.cell 1
       simp at d1 d2))
   all_goals
    have hd:=hide (fun (W:World) (k:Keeps [] W5 W)=>diff_E (hE5.keeps0 k) (hr.ext ((x3.trans x4).trans x5) hEr.wf hE5.wf) hr5 (by have:=Hl.out;have:=Hn.out;omega))
    clear hv h1 g0 g1 g2 a0 a1 a2 b0 b1 b2
    go_wp2_with fail
    first
     | refine (hd.out _ (Keeps.refl _ _)).mono ?_
     | (refine wp_quietV 6 (by kernel_rfl) (by kernel_rfl) ?_
        simp only [List.take_succ_cons,List.take_zero,List.drop_succ_cons,List.drop_zero]
        repeat (go_big_quiet_step (fail))
        refine wpQuiet_nil ?_
        go_wp2_with fail
        refine (hd.out _ (Keeps.drew [] _)).mono ?_)
    rintro e W6 ⟨r4,S5,rfl,hE6,k6,x6,n6,hr6⟩
    go_wp2_with fail
    refine ⟨⟨r4,j+1,S5,rfl,by simp,by omega,hE6,((hk.trans ((Keeps.drew [] _).mono (by simp))).trans k3).trans ((k4.trans k5).trans (by first | exact k6 | exact ((Keeps.drew [] _).mono (by simp)).trans k6)),hx.trans ((x3.trans x4).trans (x5.trans x6)),by have:=Hn.out;push_cast;omega,hr6.1,fun σ=>?_⟩,by simp only [intOf];omega⟩
    rw [hr6.2]
    constructor
    ·rintro ⟨h2,h3⟩ i hi
     by_cases e:i<j
     ·exact h2 i e
     ·have:i=j:=by omega
      subst this
      exact Classical.not_not.1 h3
    ·exact fun h2=>⟨fun i hi=>h2 i (by omega),fun h3=>h3 (h2 j (by omega))⟩
  ·have hjI:¬ (j:Int)<3:=by omega
   have e:j=3:=by omega
   subst e
   go_wp2_with fail
   go_ret
   exact ⟨r,S1,rfl,hEr,(kA.mono (by simp)).trans hk,hx,by omega,hr.1,fun σ=>by rw [hr.2,hEq]⟩
end
end Go.Proofs.YtgjomknpjigkhaaGreatDoor
