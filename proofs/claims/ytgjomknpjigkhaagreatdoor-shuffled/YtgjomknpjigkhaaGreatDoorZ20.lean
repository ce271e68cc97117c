import Derived.Test.YtgjomknpjigkhaaGreatDoorZ19
namespace Go.Proofs.YtgjomknpjigkhaaGreatDoor
open Go.Proofs.Tryz
set_option maxRecDepth 100000
set_option maxHeartbeats 4000000
section
open Go.RowKit
theorem Fe (a:Nat):BitVec.ofInt 64 (a:Int)=BitVec.ofNat 64 a:=by simp
theorem Su {a:Nat} (h:a<4611686018427387904):IntKind.i64.wrap (a:Int)=(a:Int):=by
 simp only [IntKind.wrap,IntKind.bits,IntKind.signed];simp;omega
theorem or_run (ty:TypeId) {a b:Nat} (ha:a<4611686018427387904) (hb:b<4611686018427387904) (w:World):(binOp .or ty (.int .i64 (a:Int)) (.int .i64 (b:Int))).run prog w=.ok (.int .i64 ((a ||| b:Nat):Int)) w:=by
 have h1:a ||| b<4611686018427387904:=Co (n:=62) ha hb;have h2:(BitVec.ofInt 64 (a:Int) ||| BitVec.ofInt 64 (b:Int)).toNat=a ||| b:=by
  rw [Fe,Fe,BitVec.toNat_or,BitVec.toNat_ofNat,BitVec.toNat_ofNat,Ce (by omega),Ce (by omega)]
 simp only [binOp,ne_eq,not_true,if_false,Op.intBits];show Result.ok (Value.int .i64 (IntKind.i64.wrap ((BitVec.ofInt 64 (a:Int) ||| BitVec.ofInt 64 (b:Int)).toNat:Int))) w=_;rw [h2,Su h1]
def andN (a b:Nat):Nat:=a &&& (18446744073709551615 - b)
theorem eY {a b:Nat} (ha:a<4611686018427387904) (hb:b<4611686018427387904) (i:Nat):(andN a b).testBit i=(a.testBit i && !b.testBit i):=by
 unfold andN;rw [Nat.testBit_and];by_cases hi:i<64
 ·have:(18446744073709551615 - b).testBit i = !b.testBit i:=by
   have:=Nat.testBit_two_pow_sub_succ (n:=64) (x:=b) (by omega) i;rw [show (18446744073709551615 - b)=2 ^ 64 - (b+1) by omega,this];simp [hi]
  rw [this]
 ·have h0:a.testBit i=false:=Nat.testBit_lt_two_pow (A4 ha (by
   have:(2:Nat) ^ 62≤2 ^ i:=C6 (by omega) (by omega)
   omega))
  rw [h0];rfl
theorem jZ (a b:Nat):andN a b≤a:=Nat.and_le_left
theorem Rt {a b:Nat} (ha:a<4611686018427387904) (hb:b<4611686018427387904):bits .or .i64 (a:Int) (b:Int)=((a ||| b:Nat):Int):=by
 have h1:a ||| b<4611686018427387904:=Co (n:=62) ha hb;have h2:(BitVec.ofInt 64 (a:Int) ||| BitVec.ofInt 64 (b:Int)).toNat=a ||| b:=by
  rw [Fe,Fe,BitVec.toNat_or,BitVec.toNat_ofNat,BitVec.toNat_ofNat,Ce (by omega),Ce (by omega)]
 show IntKind.i64.wrap ((BitVec.ofInt 64 (a:Int) ||| BitVec.ofInt 64 (b:Int)).toNat:Int)=_;rw [h2,Su h1]
theorem XB {a b:Nat} (ha:a<4611686018427387904) (hb:b<4611686018427387904):bits .andNot .i64 (a:Int) (b:Int)=((andN a b:Nat):Int):=by
 have h1:andN a b<4611686018427387904:=Nat.lt_of_le_of_lt (jZ a b) ha;have h2:(BitVec.ofInt 64 (a:Int) &&& ~~~BitVec.ofInt 64 (b:Int)).toNat=andN a b:=by
  rw [Fe,Fe,BitVec.toNat_and,BitVec.toNat_not,BitVec.toNat_ofNat,BitVec.toNat_ofNat,Ce (by omega),Ce (by omega)];rfl
 show IntKind.i64.wrap ((BitVec.ofInt 64 (a:Int) &&& ~~~BitVec.ofInt 64 (b:Int)).toNat:Int)=_;rw [h2,Su h1]
theorem jX {a b:Nat} (ha:a<4611686018427387904) (hb:b<4611686018427387904):bits .and .i64 (a:Int) (b:Int)=((a &&& b:Nat):Int):=by
 have h1:a &&& b<4611686018427387904:=Nat.lt_of_le_of_lt Nat.and_le_left ha;have h2:(BitVec.ofInt 64 (a:Int) &&& BitVec.ofInt 64 (b:Int)).toNat=a &&& b:=by
  rw [Fe,Fe,BitVec.toNat_and,BitVec.toNat_ofNat,BitVec.toNat_ofNat,Ce (by omega),Ce (by omega)]
 show IntKind.i64.wrap ((BitVec.ofInt 64 (a:Int) &&& BitVec.ofInt 64 (b:Int)).toNat:Int)=_;rw [h2,Su h1]
theorem Du.at {w:World} {base:Nat} {X:List Nat} {cs:List Ac} {vs:List Value} (h:Du w base X cs vs) {i:Nat} {c:Ac} (hi:cs[i]?=some c):∃ hv lv ls,(∀ q,q<3→vs[i * 3+q]?=[Value.int .i64 (c.head.rel:Int),hv,lv][q]?)∧w.ownsRow base 220 2 hv c.head.terms.length (EA c.head.terms)∧w.ownsRow base 279 3 lv c.lits.length ls∧EU w base X c.lits ls:=by
 induction cs generalizing vs i with
 | nil=>simp at hi
 | cons x cs ih=>
  obtain ⟨hv,lv,ls,rest,h1,h2,h3,h4,h5,h6,h7⟩:=h;subst h1;cases i with
  | zero=>
   simp at hi;subst hi;exact ⟨hv,lv,ls,fun q hq=>by rw [D3,Ag,Az (by simpa using hq)],h2,h4,h6⟩
  | succ i=>
   obtain ⟨a,b,d,k1,k2⟩:=ih h7 (by simpa using hi);refine ⟨a,b,d,fun q hq=>?_,k2⟩;rw [Av (by simp;omega)];have:(i+1) * 3+q - [Value.int .i64 (x.head.rel:Int),hv,lv].length=i * 3+q:=by simp;omega
   rw [this];exact k1 q hq
theorem EU.at {w:World} {base:Nat} {X:List Nat} {ls:List (BW×Bool)} {vs:List Value} (h:EU w base X ls vs) {i:Nat} {l:BW×Bool} (hi:ls[i]?=some l):∃ v,(∀ q,q<3→vs[i * 3+q]?=[Value.int .i64 (l.1.rel:Int),v,.bool l.2][q]?)∧w.ownsRow base 220 2 v l.1.terms.length (EA l.1.terms):=by
 induction ls generalizing vs i with
 | nil=>simp at hi
 | cons x ls ih=>
  obtain ⟨v,rest,h1,h2,h3,h4⟩:=h;subst h1;cases i with
  | zero=>
   simp at hi;subst hi;exact ⟨v,fun q hq=>by rw [D3,Ag,Az (by simpa using hq)],h2⟩
  | succ i=>
   obtain ⟨a,k1,k2⟩:=ih h4 (by simpa using hi);refine ⟨a,fun q hq=>?_,k2⟩;rw [Av (by simp;omega)];have:(i+1) * 3+q - [Value.int .i64 (x.1.rel:Int),v,.bool x.2].length=i * 3+q:=by simp;omega
   rw [this];exact k1 q hq
theorem Mf {xs:List BN} {i:Nat} {x:BN} (h:xs[i]?=some x):(EA xs)[i * 2]?=some (.bool x.isVar)∧(EA xs)[i * 2+1]?=some (.int .i64 x.num):=by
 induction xs generalizing i with
 | nil=>simp at h
 | cons y xs ih=>
  have e:EA (y :: xs)=[.bool y.isVar,.int .i64 y.num]++EA xs:=by simp [EA,Z7]
  rw [e];cases i with
  | zero=>simp at h;subst h;simp
  | succ i=>
   have h2:=ih (i:=i) (by simpa using h);rw [Av (by simp;omega),Av (by simp;omega)];have e1:(i+1) * 2 - [Value.bool y.isVar,.int .i64 y.num].length=i * 2:=by simp;omega
   have e2:(i+1) * 2+1 - [Value.bool y.isVar,.int .i64 y.num].length=i * 2+1:=by simp;omega
   rw [e1,e2];exact h2
def EI (m:Nat) (x:BN):Nat:=if x.isVar then m ||| 2 ^ x.num.toNat else m
def maskOf (m:Nat) (xs:List BN):Nat:=xs.foldl EI m
def KS (xs:List BN):Prop:=∀ x∈xs,x.isVar=true→∃ p:Nat,x.num=(p:Int)∧p<4
theorem NR {m:Nat} (hm:m<16) {x:BN} (hx:x.isVar=true→∃ p:Nat,x.num=(p:Int)∧p<4):EI m x<16:=by
 unfold EI;split
 ·rename_i h;obtain ⟨p,hp,hp4⟩:=hx h;rw [hp];have:(2:Nat) ^ (p:Int).toNat<2 ^ 4:=C5 (by omega) (by omega);exact Co (n:=4) hm this
 ·exact hm
theorem Kf {m:Nat} (hm:m<16) {xs:List BN} (hx:KS xs):maskOf m xs<16:=by
 induction xs generalizing m with
 | nil=>exact hm
 | cons x xs ih=>exact ih (NR hm (hx x (by simp))) (fun y hy=>hx y (by simp [hy]))
theorem Y4 (m:Nat) (xs:List BN):maskOf m xs=m ||| maskOf 0 xs:=by
 induction xs generalizing m with
 | nil=>simp [maskOf]
 | cons x xs ih=>
  show maskOf (EI m x) xs=m ||| maskOf (EI 0 x) xs;rw [ih (EI m x),ih (EI 0 x),←Nat.or_assoc];congr 1
  unfold EI;split <;> simp
theorem Ov {xs:List BN} (hx:KS xs) (i:Nat):(maskOf 0 xs).testBit i=true↔(i:Int)∈FO xs:=by
 induction xs with
 | nil=>simp [maskOf,FO]
 | cons x xs ih=>
  have hx':KS xs:=fun y hy=>hx y (by simp [hy]);have e:maskOf 0 (x :: xs)=maskOf (EI 0 x) xs:=rfl;rw [e,Y4,Nat.testBit_or,Cu,ih hx'];unfold EI;cases hv:x.isVar with
  | false=>simp [FO,hv]
  | true=>
   obtain ⟨p,hp,_⟩:=hx x (by simp) hv;have:FO (x :: xs)=x.num :: FO xs:=(by simp [FO,hv]);rw [this,hp];simp only [if_true,BE,Nat.zero_or,AG,Int.natCast_inj];rw [Nat.testBit_two_pow];simp [eq_comm]
theorem XX {p:Nat} (hp:p<60):IntKind.i64.wrap (2 ^ p)=((2 ^ p:Nat):Int):=by
 have h3:(2:Nat) ^ p<4611686018427387904:=A4 (C5 (by omega) hp) (by decide);have:=Su h3;simpa using this
theorem OG {w:World} {base:Nat} (r:Int) (xs:List BN) {av:Option Addr} {cc:Nat} (hrow:w.ownsRow base 220 2 (.slice av xs.length cc) xs.length (EA xs)) (hx:KS xs) (hl:xs.length≤1000000):Calls prog 200 #[.agg #[.int .i64 r,.slice av xs.length cc]] w fun e w'=>e=.returned (.int .i64 ((maskOf 0 xs:Nat):Int))∧AA [] w w':=by
 have kA:=AA.alloc [] w (.cells #[.int .i64 r,.slice av xs.length cc] 151);have Hrow:=AD hrow;have Hx:=AD hx;generalize hR:maskOf 0 xs=R;have HR:=AD hR;clear hR hrow hx;go_in
 go_wp2_with fail
 go_loopw [3,9] (fun y x wr=>∃ (i M:Nat),y=.int .i64 (M:Int)∧x=.int .i64 i∧i≤xs.length∧M<16∧AA [] w wr∧maskOf M (xs.drop i)=R) (fun _ x _=>xs.length - (intOf x).toNat)
 case atStart=>exact ⟨0,0,rfl,rfl,by omega,by omega,kA,by rw [BV];exact HR.out⟩
 case round=>
  obtain ⟨i,M,rfl,rfl,hil,hM,kr,hres⟩:=hrel;clear kA HR;by_cases hlt:i<xs.length
  ·obtain ⟨x,hx⟩:∃ x,xs[i]?=some x:=⟨_,AB hlt⟩;have hdi:xs.drop i=x :: xs.drop (i+1):=by
    rw [BT hlt];congr 1
    rw [AB hlt] at hx;exact Ar hx
   have hres':maskOf (EI M x) (xs.drop (i+1))=R:=by rw [←hres,hdi];rfl
   have hrr:=AH Hrow.out kr;obtain ⟨gt,hgt⟩:=DK hrr (by omega);subst hgt;obtain ⟨t0,t1⟩:=Mf hx;have c0:=BL hrr t0;have c1:=BL hrr t1;have hiI:(i:Int)<xs.length:=(by omega);have hgl:gt<wr.heap.size:=(Bd hrr gt rfl).2;have hxm:=Hx.out x (AE hx);have hM2:=NR hM hxm;have kK:=AA.alloc [] wr (.cells #[.bool x.isVar,.int .i64 x.num] 220);clear hdi hres hx t0 t1 hrr;cases hv:x.isVar with
   | false=>
    have e:EI M x=M:=by unfold EI;rw [hv];rfl
    rw [e] at hres';have Hres:=AD hres';rw [hv] at c0 kK;clear hres' e hM2 hxm;go_wp2_with fail
    go_roundw
    ·exact ⟨i+1,M,rfl,by simp,by omega,hM,kr.trans kK,Hres.out⟩
    ·simp only [intOf];omega
   | true=>
    obtain ⟨p,hp,hp4⟩:=hxm hv;have e:EI M x=M ||| 2 ^ p:=by unfold EI;rw [hv,hp];rfl
    rw [e] at hres' hM2;have Hres:=AD hres';rw [hp] at c1;rw [hv] at c0;rw [hp,hv] at kK;have hsh:=XX (p:=p) (by omega);have h2p:(2:Nat) ^ p<16:=A4 (C5 (by omega) hp4) (by decide);generalize hP2:(2:Nat) ^ p=P2 at *;have hor:=Rt (a:=M) (b:=P2) (by omega) (by omega);clear hres' e hp hv;go_wp2_with fail
    go_roundw
    ·exact ⟨i+1,M ||| P2,rfl,by simp,by omega,hM2,kr.trans kK,Hres.out⟩
    ·simp only [intOf];omega
  ·have hiI:¬ (i:Int)<xs.length:=(by omega);have hdz:xs.drop i=[]:=Bq (by omega);rw [hdz] at hres;have Hres:Hid (M=R):=AD hres;clear hres hdz;go_wp2_with fail
   go_ret
   exact ⟨by rw [←Hres.out];rfl,kr⟩
def M2 (xs:List BN):Prop:=KS xs∧xs.length≤1000000
def JW (c:Ac):Prop:=M2 c.head.terms∧∀ l∈c.lits,M2 l.1.terms
def FT (p:Nat×Nat) (l:BW×Bool):Nat×Nat:=if l.2 then (p.1 ||| maskOf 0 l.1.terms,p.2) else (p.1,p.2 ||| maskOf 0 l.1.terms)
def Hu (p:Nat×Nat) (ls:List (BW×Bool)):Nat×Nat:=ls.foldl FT p
def G7 (ls:List (BW×Bool)):List Int:=(ls.filter (·.2)).flatMap fun l=>FO l.1.terms
def JP (ls:List (BW×Bool)):List Int:=(ls.filter (fun l=>!l.2)).flatMap fun l=>FO l.1.terms
theorem WK {p:Nat×Nat} (h:p.1<16∧p.2<16) {l:BW×Bool} (hl:KS l.1.terms):(FT p l).1<16∧(FT p l).2<16:=by
 have hm:=Kf (m:=0) (by omega) hl;unfold FT;split
 ·exact ⟨Co (n:=4) h.1 hm,h.2⟩
 ·exact ⟨h.1,Co (n:=4) h.2 hm⟩
theorem bZ {p:Nat×Nat} (h:p.1<16∧p.2<16) {ls:List (BW×Bool)} (hl:∀ l∈ls,KS l.1.terms):(Hu p ls).1<16∧(Hu p ls).2<16:=by
 induction ls generalizing p with
 | nil=>exact h
 | cons l ls ih=>exact ih (WK h (hl l (by simp))) (fun x hx=>hl x (by simp [hx]))
theorem Y3 {p:Nat×Nat} {ls:List (BW×Bool)} (hl:∀ l∈ls,KS l.1.terms) (i:Nat):((Hu p ls).1.testBit i=true↔p.1.testBit i=true∨(i:Int)∈G7 ls)∧((Hu p ls).2.testBit i=true↔p.2.testBit i=true∨(i:Int)∈JP ls):=by
 induction ls generalizing p with
 | nil=>simp [Hu,G7,JP]
 | cons l ls ih=>
  have h1:=ih (p:=FT p l) (fun x hx=>hl x (by simp [hx]));have hb:=Ov (hl l (by simp)) i;have e:Hu p (l :: ls)=Hu (FT p l) ls:=rfl;rw [e];cases h2:l.2 with
  | true=>
   have e1:FT p l=(p.1 ||| maskOf 0 l.1.terms,p.2):=by unfold FT;rw [h2];rfl
   have e2:G7 (l :: ls)=FO l.1.terms++G7 ls:=(by simp [G7,h2]);have e3:JP (l :: ls)=JP ls:=(by simp [JP,h2]);rw [e1] at h1;rw [e1,e2,e3,AC,←hb,←or_assoc];simpa using h1
  | false=>
   have e1:FT p l=(p.1,p.2 ||| maskOf 0 l.1.terms):=by unfold FT;rw [h2];rfl
   have e2:G7 (l :: ls)=G7 ls:=(by simp [G7,h2]);have e3:JP (l :: ls)=FO l.1.terms++JP ls:=(by simp [JP,h2]);rw [e1] at h1;rw [e1,e2,e3,AC,←hb,←or_assoc];simpa using h1
theorem TC {xs:List BN} (h:KS xs) {n:Int} (hn:n∈FO xs):∃ p:Nat,n=(p:Int):=by
 simp only [FO,AM,Ai] at hn;obtain ⟨x,⟨hx,hv⟩,rfl⟩:=hn;obtain ⟨p,hp,_⟩:=h x hx hv;exact ⟨p,hp⟩
theorem TE {c:Ac} (h:JW c):DQ c = !decide (andN (Hu (maskOf 0 c.head.terms,0) c.lits).1 (Hu (maskOf 0 c.head.terms,0) c.lits).2=0):=by
 have hl:∀ l∈c.lits,KS l.1.terms:=fun l hl=>(h.2 l hl).1;have hm:=Kf (m:=0) (by omega) h.1.1;have hlt:=bZ (p:=(maskOf 0 c.head.terms,0)) ⟨hm,Nat.zero_lt_succ 15⟩ hl;have hbit:∀ i,(andN (Hu (maskOf 0 c.head.terms,0) c.lits).1 (Hu (maskOf 0 c.head.terms,0) c.lits).2).testBit i=true↔(i:Int)∈KK c∧(i:Int)∉JO c:=fun i=>by
  obtain ⟨h1,h2⟩:=Y3 (p:=(maskOf 0 c.head.terms,0)) hl i;rw [eY (by omega) (by omega),A1,h1,Dm,←Bool.not_eq_true,h2,Ov h.1.1];have e1:KK c=FO c.head.terms++G7 c.lits:=rfl;have e2:JO c=JP c.lits:=rfl;rw [e1,e2,AC];simp
 rw [Bg];unfold DQ;rw [List.any_eq_true];simp only [Dm,decide_eq_false_iff_not];constructor
 ·rintro ⟨n,hn,hb⟩ h0;have hnat:∃ p:Nat,n=(p:Int):=by
   have e1:KK c=FO c.head.terms++G7 c.lits:=rfl;rw [e1,AC] at hn;rcases hn with hn | hn
   ·exact TC h.1.1 hn
   ·simp only [G7,Ap,Ai] at hn;obtain ⟨l,⟨hl1,_⟩,hn⟩:=hn;exact TC (hl l hl1) hn
  obtain ⟨p,rfl⟩:=hnat;have:=(hbit p).2 ⟨hn,hb⟩;rw [h0,Nat.zero_testBit] at this;cases this
 ·intro h0;obtain ⟨i,hi⟩:=Nat.exists_testBit_of_ne_zero h0;obtain ⟨h1,h2⟩:=(hbit i).1 hi;exact ⟨(i:Int),h1,h2⟩
theorem Hi {w:World} {mb B:Nat} {m:Mean} (h:B5 w mb B m):∃ a cc la lc,B<w.heap.size∧(∀ c∈m.clauses,∃ g g2,a=some ⟨g,0,none⟩∧g<w.heap.size∧la=some ⟨g2,0,none⟩∧g2<w.heap.size)∧∀ {W:World},AA [] w W→W.cell? ⟨B,6,none⟩=some (.slice a m.clauses.length cc)∧W.cell? ⟨B,7,none⟩=some (.slice la m.clauses.length lc)∧(∀ (i g2:Nat) (c:Ac),m.clauses[i]?=some c→la=some ⟨g2,0,none⟩→W.cell? ⟨g2,i,none⟩=some (.int .i64 (c.line:Int)))∧∀ (i g:Nat) (c:Ac),m.clauses[i]?=some c→a=some ⟨g,0,none⟩→∃ ha hc va vc ls,W.cell? ⟨g,i * 3,none⟩=some (.int .i64 (c.head.rel:Int))∧W.cell? ⟨g,i * 3+1,none⟩=some (.slice ha c.head.terms.length hc)∧W.cell? ⟨g,i * 3+2,none⟩=some (.slice va c.lits.length vc)∧w.ownsRow mb 220 2 (.slice ha c.head.terms.length hc) c.head.terms.length (EA c.head.terms)∧w.ownsRow mb 279 3 (.slice va c.lits.length vc) c.lits.length ls∧EU w mb [] c.lits ls:=by
 obtain ⟨tD,mD,sz,tN,mN,co,cl,ln,cvs,kvs,hV⟩:=h;obtain ⟨ak,ck,hk⟩:=Al hV.cls;subst hk;obtain ⟨al,cl2,hk⟩:=Al hV.lines;subst hk;refine ⟨ak,ck,al,cl2,hV.cells.lt,fun c hc=>?_,fun k=>⟨by rw [(hV.cells.keeps k).cell];rfl,by rw [(hV.cells.keeps k).cell];rfl,fun i g2 c hi hg=>?_,fun i g c hi hg=>?_⟩⟩
 ·have hpos:0<m.clauses.length:=Ck hc;obtain ⟨g,hg⟩:=DK hV.cls hpos;obtain ⟨g2,hg2⟩:=DK hV.lines hpos;subst hg;subst hg2;exact ⟨g,g2,rfl,(Bd hV.cls g rfl).2,rfl,(Bd hV.lines g2 rfl).2⟩
 ·subst hg;refine GF (AH hV.lines k) ?_;simp [Ft,hi]
 ·subst hg;obtain ⟨hv,lv,ls,h1,h2,h3,h4⟩:=hV.clsA.at hi;obtain ⟨ha,hc,e⟩:=Al h2;subst e;obtain ⟨va,vc,e⟩:=Al h3;subst e;have hcr:=AH hV.cls k;have e0:=h1 0 (by omega);rw [CY] at e0;exact ⟨ha,hc,va,vc,ls,BL hcr (by rw [e0];rfl),BL hcr (by rw [h1 1 (by omega)];rfl),BL hcr (by rw [h1 2 (by omega)];rfl),h2,h3,h4.far (by simp)⟩
abbrev XG:=List Nat→Nat→BW×Bool→Nat
structure Pk (cs:List Ac) (G:XG) (U n:Nat) (Inv:List Nat→Prop):Prop where
 len:∀ {vals},Inv vals→vals.length=n
 le:∀ {vals},Inv vals→∀ v∈vals,v≤U
 grow:∀ {vals} {c:Ac} {l:BW×Bool},Inv vals→c∈cs→l∈c.lits→vals.getD c.head.rel 0≤G vals (vals.getD c.head.rel 0) l
 keep:∀ {vals} {c:Ac} {l:BW×Bool},Inv vals→c∈cs→l∈c.lits→Inv (vals.set c.head.rel (G vals (vals.getD c.head.rel 0) l))
 rels:∀ c∈cs,Gg n c
theorem fZ (vals:List Nat) {h:Nat} (hh:h<vals.length) (x:Nat):(vals.set h x).sum+vals.getD h 0=vals.sum+x:=by
 induction vals generalizing h with
 | nil=>simp at hh
 | cons v vals ih=>
  cases h with
  | zero=>simp;omega
  | succ h=>
   have:=ih (h:=h) (by simpa using hh);simp at this ⊢;omega
theorem Z9 {vals:List Nat} {U:Nat} (h:∀ v∈vals,v≤U):vals.sum≤vals.length * U:=by
 induction vals with
 | nil=>simp
 | cons v vals ih=>
  have h1:=h v (by simp);have h2:=ih (fun x hx=>h x (by simp [hx]));rw [List.sum_cons,AU,Nat.add_mul];omega
def IY (G:XG) (vals0 vals:List Nat) (c:Bool) (done:Nat→BW×Bool→Prop):Prop:=(c=true∧vals0.sum<vals.sum)∨(c=false∧vals=vals0∧∀ h l,done h l→G vals (vals.getD h 0) l=vals.getD h 0)
theorem IY.mono {G:XG} {vals0 vals:List Nat} {c:Bool} {done done':Nat→BW×Bool→Prop} (h:IY G vals0 vals c done) (hd:∀ h l,done' h l→done h l):IY G vals0 vals c done':=by
 rcases h with h | ⟨h1,h2,h3⟩
 ·exact .inl h
 ·exact .inr ⟨h1,h2,fun a l q=>h3 a l (hd a l q)⟩
theorem IY.step {cs:List Ac} {G:XG} {U n:Nat} {Inv:List Nat→Prop} (H:Pk cs G U n Inv) {vals0 vals:List Nat} {b:Bool} {done done':Nat→BW×Bool→Prop} (h:IY G vals0 vals b done) (hI:Inv vals) {c:Ac} (hc:c∈cs) {l:BW×Bool} (hl:l∈c.lits) (hd:∀ h x,done' h x→done h x∨(h=c.head.rel∧x=l)):IY G vals0 (vals.set c.head.rel (G vals (vals.getD c.head.rel 0) l)) (b || (((G vals (vals.getD c.head.rel 0) l:Nat):Int) != ((vals.getD c.head.rel 0:Nat):Int))) done':=by
 have hr:c.head.rel<vals.length:=by rw [H.len hI];exact (H.rels c hc).1
 have hs:=fZ vals hr (G vals (vals.getD c.head.rel 0) l);have hg:=H.grow hI hc hl;by_cases he:G vals (vals.getD c.head.rel 0) l=vals.getD c.head.rel 0
 ·have hsame:vals.set c.head.rel (G vals (vals.getD c.head.rel 0) l)=vals:=by
   rw [he];apply Bj;intro i;rw [Aw];split
   ·rename_i e;subst e;rw [Ad,AB hr];rfl
   ·rfl
  rw [hsame];have e0:(((G vals (vals.getD c.head.rel 0) l:Nat):Int) != ((vals.getD c.head.rel 0:Nat):Int))=false:=by rw [bne_eq_false_iff_eq,he]
  rw [e0,Bool.or_false];rcases h with h | ⟨h1,h2,h3⟩
  ·exact .inl h
  ·refine .inr ⟨h1,h2,fun a x hx=>?_⟩;rcases hd a x hx with q | ⟨rfl,rfl⟩
   ·exact h3 a x q
   ·exact he
 ·have e0:(((G vals (vals.getD c.head.rel 0) l:Nat):Int) != ((vals.getD c.head.rel 0:Nat):Int))=true:=by rw [bne_iff_ne];omega
  rw [e0,Bool.or_true];left;refine ⟨rfl,?_⟩;rcases h with ⟨_,h⟩ | ⟨_,h2,_⟩
  ·omega
  ·rw [←h2];omega
def Gd (vals:List Nat):Array Value:=(vals.map fun n:Nat=>Value.int .i64 (n:Int)).toArray
theorem Fu {vals:List Nat} {i:Nat} (h:i<vals.length):(Gd vals)[i]?=some (.int .i64 ((vals.getD i 0:Nat):Int)):=by
 simp [Gd,List.getD_eq_getElem?_getD,h]
theorem T9 (vals:List Nat) (i x:Nat):(Gd vals).setIfInBounds i (.int .i64 (x:Int))=Gd (vals.set i x):=by
 simp [Gd,List.map_set]
def lG:Value→Nat | .int _ v=>v.toNat | _=>0
def QQ (w:World) (g:Nat):Nat:=match w.heap[g]? with | some (.cells cs _ _)=>(cs.toList.map lG).sum | _=>0
theorem Lv {w:World} {g:Nat} {vals:List Nat} (h:AK w g (Gd vals)):QQ w g=vals.sum:=by
 obtain ⟨t,ht⟩:=h;unfold QQ;rw [ht];simp only [Gd];congr 1
 rw [CZ];conv=>rhs;rw [←List.map_id vals]
 apply Bn;intro x _;simp [lG]
def Dr (G:XG) (cs:List Ac) (vals:List Nat):Prop:=∀ c∈cs,∀ l∈c.lits,G vals (vals.getD c.head.rel 0) l=vals.getD c.head.rel 0
def hangG:XG:=fun vals v l=>v ||| vals.getD l.1.rel 0
def Q5 (E:EV) (n:Nat) (vals:List Nat):Prop:=vals.length=n∧∀ i,i<n→vals.getD i 0<2 ^ n∧(vals.getD i 0).testBit i=true∧∀ j,(vals.getD i 0).testBit j=true→D8 E i j
theorem KD (vals:List Nat) {h:Nat} (hh:h<vals.length) (x i:Nat):(vals.set h x).getD i 0=if i=h then x else vals.getD i 0:=by
 rw [Ad,Aw,Ad];by_cases e:h=i
 ·subst e;simp [hh]
 ·rw [if_neg e,if_neg (fun q=>e q.symm)]
theorem jA {cs:List Ac} {n:Nat} (hr:∀ c∈cs,Gg n c):Pk cs hangG (2 ^ n) n (Q5 (Cf cs) n) where
 len h:=h.1
 le {vals} h v hv:=by
  obtain ⟨i,hi⟩:=List.getElem?_of_mem hv;have hil:i<vals.length:=by
   rcases BP i vals.length with q | q
   ·exact q
   ·rw [Af q] at hi;cases hi
  have:=(h.2 i (by rw [←h.1];exact hil)).1;rw [Ad,hi] at this;exact Nat.le_of_lt this
 grow h hc hl:=Nat.left_le_or
 keep {vals c l} h hc hl:=by
  have hh:c.head.rel<vals.length:=by rw [h.1];exact (hr c hc).1
  have hlr:l.1.rel<n:=(hr c hc).2 l hl;refine ⟨by rw [BI];exact h.1,fun i hi=>?_⟩;rw [KD vals hh];split
  ·rename_i e;subst e;have h1:=h.2 c.head.rel hi;have h2:=h.2 l.1.rel hlr;refine ⟨Co h1.1 h2.1,?_,fun j hj=>?_⟩
   ·show (vals.getD c.head.rel 0 ||| vals.getD l.1.rel 0).testBit _=true;rw [Nat.testBit_or,h1.2.1];rfl
   ·have hj':(vals.getD c.head.rel 0 ||| vals.getD l.1.rel 0).testBit j=true:=hj;rw [Nat.testBit_or,Cu] at hj';rcases hj' with q | q
    ·exact h1.2.2 j q
    ·have he:(c.head.rel,l.1.rel)∈Cf cs:=by
      simp only [Cf,PC,Ap,AM];exact ⟨c,hc,l,hl,rfl⟩
     exact D8.step he (h2.2.2 j q)
  ·exact h.2 i hi
 rels:=hr
theorem ZP {cs:List Ac} {n:Nat} (hr:∀ c∈cs,Gg n c) {vals:List Nat} (h:Q5 (Cf cs) n vals) (hs:Dr hangG cs vals) {a b:Nat} (ha:a<n):(vals.getD a 0).testBit b=H8 n (Cf cs) a b:=by
 refine Vl (S:=fun i j=>(vals.getD i 0).testBit j) (Fi hr) (fun i j hi hj=>(h.2 i hi).2.2 j hj) (fun i hi=>(h.2 i hi).2.1) (fun e he j hj=>?_) ha;simp only [Cf,PC,Ap,AM] at he;obtain ⟨c,hc,l,hl,rfl⟩:=he;have:=hs c hc l hl;show (vals.getD c.head.rel 0).testBit j=true;rw [←this];show (vals.getD c.head.rel 0 ||| vals.getD l.1.rel 0).testBit j=true;rw [Nat.testBit_or,Cu];exact .inr hj
def layG:XG:=fun vals v l=>max v (vals.getD l.1.rel 0+(if l.2 then 1 else 0))
def M6 (cs:List Ac) (n:Nat) (vals:List Nat):Prop:=vals.length=n∧(∀ i,i<n→vals.getD i 0+1≤E3 n (Cf cs) i)∧∀ vs:List Nat,Dr layG cs vs→∀ i,vals.getD i 0≤vs.getD i 0
theorem mM {cs:List Ac} {n:Nat} (hr:∀ c∈cs,Gg n c) (hc:∀ c∈cs,ET n (Cf cs) c=false):Pk cs layG n n (M6 cs n) where
 len h:=h.1
 le {vals} h v hv:=by
  obtain ⟨i,hi⟩:=List.getElem?_of_mem hv;have hil:i<vals.length:=by
   rcases BP i vals.length with q | q
   ·exact q
   ·rw [Af q] at hi;cases hi
  have:=h.2.1 i (by rw [←h.1];exact hil);rw [Ad,hi] at this;have h2:=Sb n (H8 n (Cf cs) i);have h3:v+1≤E3 n (Cf cs) i:=this;unfold E3 at h3;omega
 grow h hc hl:=Nat.le_max_left _ _
 keep {vals c l} h hcc hl:=by
  have hh:c.head.rel<vals.length:=by rw [h.1];exact (hr c hcc).1
  have hlr:l.1.rel<n:=(hr c hcc).2 l hl;have he:(c.head.rel,l.1.rel)∈Cf cs:=by
   simp only [Cf,PC,Ap,AM];exact ⟨c,hcc,l,hl,rfl⟩
  refine ⟨by rw [BI];exact h.1,fun i hi=>?_,fun vs hvs i=>?_⟩;rotate_left
  ·rw [KD vals hh];split
   ·rename_i e;subst e;have q1:=h.2.2 vs hvs c.head.rel;have q2:=h.2.2 vs hvs l.1.rel;have q3:max (vs.getD c.head.rel 0) (vs.getD l.1.rel 0+(if l.2 then 1 else 0))=vs.getD c.head.rel 0:=hvs c hcc l hl;show max (vals.getD c.head.rel 0) (vals.getD l.1.rel 0+(if l.2 then 1 else 0))≤_;omega
   ·exact h.2.2 vs hvs i
  rw [KD vals hh];split
  ·rename_i e;subst e;have h1:=h.2.1 c.head.rel hi;have h2:=h.2.1 l.1.rel hlr;show max (vals.getD c.head.rel 0) (vals.getD l.1.rel 0+(if l.2 then 1 else 0))+1≤_;have h3:=Px (Fi hr) he;cases h4:l.2 with
   | false=>simp only [BQ,if_false];omega
   | true=>
    have hn:H8 n (Cf cs) l.1.rel c.head.rel=false:=by
     have:=hc c hcc;unfold ET at this;rw [List.any_eq_false] at this;have:=this l hl;rw [h4] at this;simpa using this
    have h5:=Rk (Fi hr) he hn;simp only [if_true];omega
  ·exact h.2.1 i hi
 rels:=hr
theorem ZB {cs:List Ac} {n:Nat} (hr:∀ c∈cs,Gg n c):M6 cs n (List.replicate n 0):=by
 refine ⟨by simp,fun i hi=>?_,fun vs _ i=>?_⟩;rotate_left
 ·rw [Ad,BC];split <;> simp
 have:=Rj (Fi hr) hi;rw [Ad,BC,if_pos hi];simpa using this
def YB (c:Nat) (R:Option Nat) (e:Ending):Prop:=match R with
 | some l=>e=Cx c l
 | none=>e=.returned (.tuple #[])
set_option maxHeartbeats 8000000 in
theorem RE {w:World} {mb B:Nat} {m:Mean} (hm:B5 w mb B m) (hf:∀ c∈m.clauses,JW c∧c.lits.length≤4) (hl:m.clauses.length≤52):Calls prog 136 #[.pointer (some ⟨B,0,none⟩)] w fun e w'=>YB 12 (EC DQ m.clauses) e∧AA [] w w':=by
 obtain ⟨a,cc,la,lc,hBl,hpos,hcl⟩:=Hi hm;have b6:=(hcl (AA.refl [] w)).1;have Hcl:=AD (fun (W:World) (k:AA [] w W)=>hcl k);have Hpos:=AD hpos;have Hf:=AD hf;have hgu:=AD (fun (w:World) (l:Int)=>Ek (w:=w) 12 l);generalize hR:EC DQ m.clauses=R;have HR:=AD hR;clear hR hcl hpos hf hm;go_in
 go_wp2_with fail
 go_loopw [13] (fun x wr=>∃ i:Nat,x=.int .i64 i∧i≤m.clauses.length∧AA [] w wr∧EC DQ (m.clauses.drop i)=R) (fun x _=>m.clauses.length - (intOf x).toNat)
 case atStart=>exact ⟨0,rfl,by omega,AA.refl [] w,by rw [BV];exact HR.out⟩
 case round=>
  obtain ⟨i,rfl,hil,kr,hres⟩:=hrel;clear b6 HR;by_cases hlt:i<m.clauses.length
  ·obtain ⟨c,hc⟩:∃ c,m.clauses[i]?=some c:=⟨_,AB hlt⟩;have hdi:m.clauses.drop i=c :: m.clauses.drop (i+1):=by
    rw [BT hlt];congr 1
    rw [AB hlt] at hc;exact Ar hc
   rw [hdi,EC] at hres;have hcm:=AE hc;obtain ⟨hfine,hl4⟩:=Hf.out c hcm;obtain ⟨g,g2,hg,hgl,hg2,hg2l⟩:=Hpos.out c hcm;subst hg;subst hg2;obtain ⟨_,b7,hlines,hcells⟩:=Hcl.out wr kr;obtain ⟨ha,hc',va,vc,ls,c0,c1,c2,hrow,hlrow,hlits⟩:=hcells i g c hc rfl;have hiI:(i:Int)<m.clauses.length:=(by omega);have hsz:=kr.size;have kK:=AA.alloc [] wr (.cells #[.int .i64 (c.head.rel:Int),.slice ha c.head.terms.length hc',.slice va c.lits.length vc] 154);have hK:=AK.new wr #[.int .i64 (c.head.rel:Int),.slice ha c.head.terms.length hc',.slice va c.lits.length vc] 154;have hvc:=AD (OG (c.head.rel:Int) c.head.terms (AH hrow (kr.trans kK)) hfine.1.1 hfine.1.2);have HK:=AD hK;have Hc:=AD hc;rw [TE hfine] at hres;have hm16:=Kf (m:=0) (by omega) hfine.1.1;have Hfine:=AD hfine;have Hlr:=AD hlrow;have Hlits:=AD hlits;clear hdi hrow hlines hcells hK hc hfine b7 hlrow hlits;go_wp2_with fail
   refine hvc.out.mono ?_;rintro e w1 ⟨rfl,k1⟩;have kw1:=(kr.trans kK).trans k1;have hK1:=HK.out.keeps k1;have e2:=hK1.cell 2;have HK1:=AD hK1;generalize hP:Hu (maskOf 0 c.head.terms,0) c.lits=PP at hres;have HP:=AD hP;generalize maskOf 0 c.head.terms=M0 at *;clear hP hvc HK hK1 kK kr c0 c1 c2;go_wp2_with fail
   go_loopw [4,5,24] (fun y z x ws=>∃ (j A D:Nat),y=.int .i64 (A:Int)∧z=.int .i64 (D:Int)∧x=.int .i64 j∧j≤c.lits.length∧A<16∧D<16∧AA [] w1 ws∧Hu (A,D) (c.lits.drop j)=PP) (fun _ _ x _=>c.lits.length - (intOf x).toNat)
   case atStart=>exact ⟨0,M0,0,rfl,rfl,rfl,by omega,hm16,by omega,AA.refl [] w1,by rw [BV];exact HP.out⟩
   case round=>
    obtain ⟨j,A,D,rfl,rfl,rfl,hjl,hA,hD,ks,hmk⟩:=hrel;clear HP e2;by_cases hjlt:j<c.lits.length
    ·obtain ⟨l,hl⟩:∃ l,c.lits[j]?=some l:=⟨_,AB hjlt⟩;have hdj:c.lits.drop j=l :: c.lits.drop (j+1):=by
      rw [BT hjlt];congr 1
      rw [AB hjlt] at hl;exact Ar hl
     have hmk':Hu (FT (A,D) l) (c.lits.drop (j+1))=PP:=by rw [←hmk,hdj];rfl
     obtain ⟨v,hv1,hv2⟩:=Hlits.out.at hl;obtain ⟨v1,v2,hvv⟩:=Al hv2;subst hvv;have hcr:=AH Hlr.out (kw1.trans ks);obtain ⟨gt,hgt⟩:=DK hcr (by omega);subst hgt;have d0:wr.cell? ⟨gt,j * 3,none⟩=some (.int .i64 (l.1.rel:Int)):=BL hcr (by have:=hv1 0 (by omega);rw [CY] at this;rw [this];rfl);have d1:wr.cell? ⟨gt,j * 3+1,none⟩=some (.slice v1 l.1.terms.length v2):=BL hcr (by rw [hv1 1 (by omega)];rfl);have d2:wr.cell? ⟨gt,j * 3+2,none⟩=some (.bool l.2):=BL hcr (by rw [hv1 2 (by omega)];rfl);have hgl:gt<wr.heap.size:=(Bd hcr gt rfl).2;have hjI:(j:Int)<c.lits.length:=(by omega);have kL:=AA.alloc [] wr (.cells #[.int .i64 (l.1.rel:Int),.slice v1 l.1.terms.length v2,.bool l.2] 279);obtain ⟨hno,hlen⟩:=Hfine.out.2 l (AE hl);have hvc:=AD (OG (l.1.rel:Int) l.1.terms (AH hv2 ((kw1.trans ks).trans kL)) hno hlen);have hm2:=Kf (m:=0) (by omega) hno;have hor1:=Rt (a:=A) (b:=maskOf 0 l.1.terms) (by omega) (by omega);have hor2:=Rt (a:=D) (b:=maskOf 0 l.1.terms) (by omega) (by omega);have hlt1:A ||| maskOf 0 l.1.terms<16:=Co (n:=4) hA hm2;have hlt2:D ||| maskOf 0 l.1.terms<16:=Co (n:=4) hD hm2;unfold FT at hmk';generalize maskOf 0 l.1.terms=M at *;clear hdj hmk hl hv1 hv2 hcr hno hlen;cases hl2:l.2 with
     | true=>
      rw [hl2] at hmk' d2 kL hvc;have Hmk:=AD hmk';clear hmk' hor2 hlt2 hl2;go_wp2_with fail
      refine hvc.out.mono ?_;rintro e w2 ⟨rfl,k2⟩;go_wp2_with fail
      go_roundw
      ·exact ⟨j+1,A ||| M,D,rfl,rfl,by simp,by omega,hlt1,hD,(ks.trans kL).trans k2,Hmk.out⟩
      ·simp only [intOf];omega
     | false=>
      rw [hl2] at hmk' d2 kL hvc;have Hmk:=AD hmk';clear hmk' hor1 hlt1 hl2;go_wp2_with fail
      refine hvc.out.mono ?_;rintro e w2 ⟨rfl,k2⟩;go_wp2_with fail
      go_roundw
      ·exact ⟨j+1,A,D ||| M,rfl,rfl,by simp,by omega,hA,hlt2,(ks.trans kL).trans k2,Hmk.out⟩
      ·simp only [intOf];omega
    ·have hjI:¬ (j:Int)<c.lits.length:=(by omega);have hdz:c.lits.drop j=[]:=Bq (by omega);rw [hdz] at hmk;have hPP:PP=(A,D):=hmk.symm;subst hPP;have han:=XB (a:=A) (b:=D) (by omega) (by omega);have kall:=kw1.trans ks;by_cases h0:andN A D=0
     ·rw [h0] at han hres;have hres':EC DQ (m.clauses.drop (i+1))=R:=hres;have Hres:=AD hres';clear hres hres' h0 hmk hdz;go_wp2_with fail
      go_roundw
      ·exact ⟨i+1,by simp,by omega,kall,Hres.out⟩
      ·simp only [intOf];omega
     ·have hne:(((andN A D:Nat):Int) != 0)=true:=by rw [bne_iff_ne];omega
      rw [decide_eq_false h0] at hres;have hres':some c.line=R:=hres;have Hres:=AD hres';obtain ⟨_,b7,hlines,_⟩:=Hcl.out wr kall;have hl7:=hlines i g2 c Hc.out rfl;clear hres hres' h0 hmk hdz hlines;go_wp2_with fail
      refine (hgu.out _ _).mono ?_;rintro e w3 ⟨rfl,rfl⟩;exact ⟨rfl,by rw [←Hres.out];rfl,kall⟩
  ·have hiI:¬ (i:Int)<m.clauses.length:=(by omega);have hdz:m.clauses.drop i=[]:=Bq (by omega);rw [hdz,EC] at hres;have Hres:=AD hres;clear hres hdz;go_wp2_with fail
   go_end0
   exact ⟨by rw [←Hres.out];rfl,kr⟩
theorem Uh {w:World} {g C n cc:Nat} {vals:List Nat} (hg:AK w g (Gd vals)) (hC:AK w C #[.slice (some ⟨g,0,none⟩) n cc]) (hn:vals.length=n) (v:Nat) (l:BW×Bool) (va:Option Addr) (vn vc:Nat) (hl:l.1.rel<n) (hv:v<64) (hvl:vals.getD l.1.rel 0<64):Calls prog 256 #[.int .i64 (v:Int),.agg #[.int .i64 (l.1.rel:Int),.slice va vn vc,.bool l.2],.pointer (some ⟨C,0,none⟩)] w fun e w'=>e=.returned (.int .i64 ((hangG vals v l:Nat):Int))∧AA [] w w':=by
 have hgl:=hg.lt;have hCl:=hC.lt;have c0:=hC.cell 0;have g0:w.cell? ⟨g,l.1.rel,none⟩=some (.int .i64 ((vals.getD l.1.rel 0:Nat):Int)):=by rw [hg.cell];exact Fu (by omega)
 have hor:=Rt (a:=v) (b:=vals.getD l.1.rel 0) (by omega) (by omega);have hlI:(l.1.rel:Int)<n:=by omega
 have hG:hangG vals v l=v ||| vals.getD l.1.rel 0:=rfl;rw [hG];generalize vals.getD l.1.rel 0=M at *;have kA:=AA.alloc [] w (.cells #[.int .i64 (l.1.rel:Int),.slice va vn vc,.bool l.2] 279);clear hg hC hG;go_in
 go_wp2_with fail
 go_ret
 exact ⟨rfl,kA⟩
theorem lY {o : Oper} {a : Act} {w : World} (f : Nat) (x : Operand) (xs : Array Operand) (tys : Array TypeId) (hop : o.op = .call { callee := .value x, args := xs, argTypes := tys }) (caps : List Value) (hcal : a.eval x = .func (.func f) #[] caps.toArray) (fn : Func) (hf : prog.funcs[f]? = some fn) (hname : (fn.name == "runtime.NumGoroutine") = false) (hbody : fn.body.isNone = false) (vs : List Value) (hx : xs.toList.map a.eval ++ caps = vs) : (execOp a.eval o).run prog w = .ok (.enter f vs.toArray) w := by
 have hx':xs.map a.eval++caps.toArray=vs.toArray:=by subst hx;apply Array.ext';simp
 have hn' : ¬ fn.name = "runtime.NumGoroutine" := by simpa using hname
 have hb':¬ fn.body=none:=by intro e;rw [e] at hbody;cases hbody
 simp only [execOp,hop,resolve,hcal,Deferred.ofValue,invoke,callFunc];simp [hf,hx'];rw [if_neg hn',if_neg hb']
theorem XR {ops : Array Oper} {o : Oper} {a : Act} {w : World} {K : Act → World → Prop} {Q : Exit → Act → World → Prop} {E : Prop} (hg : o.guard = none) (f : Nat) (x : Operand) (xs : Array Operand) (tys : Array TypeId) (hop : o.op = .call { callee := .value x, args := xs, argTypes := tys }) (caps : List Value) (hcal : a.eval x = .func (.func f) #[] caps.toArray) (fn : Func) (hf : prog.funcs[f]? = some fn) (hname : (fn.name == "runtime.NumGoroutine") = false) (hbody : fn.body.isNone = false) (vs : List Value) (hx : xs.toList.map a.eval ++ caps = vs)
  (h:Calls prog f vs.toArray w fun
   | .returned v,w''=>K (a.put o.dst v) w''
   | .panicked chain,w''=>Q (.panic chain) a w''
   | .outgrown,_=>LetsOut Q):if Region.wanted o (yielded ops a.tmps)=true then Oper.wp prog o a w K Q else E:=by
 have hw:Region.wanted o (yielded ops a.tmps)=true:=by simp [Region.wanted,hg]
 rw [if_pos hw];unfold Oper.wp;rw [lY f x xs tys hop caps hcal fn hf hname hbody vs hx];exact h
structure QG (w wr:World) (g C n cc:Nat) (Inv:List Nat→Prop) (vals:List Nat):Prop where
 row:AK wr g (Gd vals)
 cap:AK wr C #[.slice (some ⟨g,0,none⟩) n cc]
 inv:Inv vals
 keep:AA [g] w wr
theorem QG.go {w wr w':World} {g C n cc:Nat} {Inv:List Nat→Prop} {vals:List Nat} (h:QG w wr g C n cc Inv vals) (k:AA [] wr w'):QG w w' g C n cc Inv vals:=⟨h.row.keeps k,h.cap.keeps k,h.inv,h.keep.trans (k.mono (by simp))⟩
theorem QG.put {w wr:World} {g C n cc:Nat} {Inv:List Nat→Prop} {vals:List Nat} (h:QG w wr g C n cc Inv vals) (hgC:C≠g) {i x:Nat} (hI:Inv (vals.set i x)):QG w (wr.setCell ⟨g,i,none⟩ (.int .i64 (x:Int))) g C n cc Inv (vals.set i x):=by
 have h1:=h.row.setCell i (.int .i64 (x:Int));rw [T9] at h1;exact ⟨h1,h.cap.keeps (AA.setCell wr ⟨g,i,none⟩ _) (by simpa using hgC),hI,h.keep.trans (AA.setCell wr ⟨g,i,none⟩ _)⟩
theorem Mr {w0 w wr:World} {g:Nat} (k0:AA [] w0 w) (hg:w0.heap.size≤g) (k:AA [g] w wr):AA [] w0 wr:=k0.trans_new k (fun j hj=>.inr (by have e:j=g:=(by simpa using hj);omega))
def tv:Value→Nat | .bool true=>1 | _=>0
def Ur (cs:List Ac):Nat→BW×Bool→Prop:=fun h l=>∃ c∈cs,c.head.rel=h∧l∈c.lits
def Qp (cs:List Ac) (r:Nat) (ls:List (BW×Bool)):Nat→BW×Bool→Prop:=fun h l=>Ur cs h l∨(h=r∧l∈ls)
theorem PD {cs:List Ac} {r:Nat} {ls:List (BW×Bool)} {h:Nat} {l:BW×Bool} (hd:Qp cs r (ls.take 0) h l):Ur cs h l:=by
 rcases hd with q | ⟨_,q⟩
 ·exact q
 ·simp at q
theorem Qo {cs:List Ac} {c:Ac} {h:Nat} {l:BW×Bool} (hd:Ur (cs++[c]) h l):Qp cs c.head.rel (c.lits.take c.lits.length) h l:=by
 obtain ⟨c',hc,h1,h2⟩:=hd;rcases AC.1 hc with q | q
 ·exact .inl ⟨c',q,h1,h2⟩
 ·have e:c' = c:=by simpa using q
  subst e;exact .inr ⟨h1.symm,by rw [Bp];exact h2⟩
set_option maxHeartbeats 16000000 in
theorem Nr {w0 w:World} {mb B g C n cc U:Nat} {m:Mean} {Inv:List Nat→Prop} (hm:B5 w0 mb B m) (k0:AA [] w0 w) (hg0:w0.heap.size≤g) (hgC:C≠g) (H:Pk m.clauses hangG U n Inv) (h64:∀ vals,Inv vals→∀ i,vals.getD i 0<64) (hl:m.clauses.length≤52) (hl4:∀ c∈m.clauses,c.lits.length≤4) {vals:List Nat} (h:QG w w g C n cc Inv vals):Calls prog 255 #[.pointer (some ⟨B,0,none⟩),.slice (some ⟨g,0,none⟩) n cc,.func (.func 256) #[] #[.pointer (some ⟨C,0,none⟩)]] w fun e w'=>e=.returned (.tuple #[])∧∃ vals',QG w w' g C n cc Inv vals'∧Dr hangG m.clauses vals':=by
 obtain ⟨a,ccl,la,lc,hBl,hpos,hcl⟩:=Hi hm;have hsz0:=k0.size;have Hcl:=AD (fun (W:World) (k:AA [] w0 W)=>hcl k);have Hpos:=AD hpos;have Hh:=AD h;have HH:=AD H;have H64:=AD h64;have Hl4:=AD hl4;have hglt:=h.row.lt;have hClt:=h.cap.lt;clear hcl hpos hm h H h64 hl4;go_in
 go_wp2_with fail
 go_loopw [6] (fun y wr=>∃ (b:Bool) (vs:List Nat),y=.bool b∧QG w wr g C n cc Inv vs∧(b=false→Dr hangG m.clauses vs)) (fun y wr=>2 * (n * U - QQ wr g)+tv y)
 case atStart=>exact ⟨true,vals,rfl,Hh.out,by simp⟩
 case round=>
  obtain ⟨b,vs,rfl,hS,hst⟩:=hrel;have HS:=AD hS;clear hS Hh;cases b with
  | false=>
   have Hst:=AD (hst rfl);clear hst;go_wp2_with fail
   go_end0
   exact ⟨rfl,vs,HS.out,Hst.out⟩
  | true=>
   clear hst;have kr:=Mr k0 hg0 HS.out.keep;obtain ⟨b6,_⟩:=Hcl.out wr kr;have hszr:=HS.out.keep.size;go_wp2_with fail
   go_loopw [6,18] (fun y x wr=>∃ (i:Nat) (b:Bool) (v2:List Nat),y=.bool b∧x=.int .i64 i∧i≤m.clauses.length∧QG w wr g C n cc Inv v2∧IY hangG vs v2 b (Ur (m.clauses.take i))) (fun _ x _=>m.clauses.length - (intOf x).toNat)
   case atStart=>exact ⟨0,false,vs,rfl,rfl,by omega,HS.out,.inr ⟨rfl,rfl,fun h l hd=>by obtain ⟨c,hc,_⟩:=hd;simp at hc⟩⟩
   case round=>
    clear b6 kr;obtain ⟨i,b,v2,rfl,rfl,hil,hS2,hP2⟩:=hrel;have kr2:=Mr k0 hg0 hS2.keep;have hsz2:=hS2.keep.size;have HS2:=AD hS2;have HP2:=AD hP2;clear hS2 hP2;by_cases hlt:i<m.clauses.length
    ·obtain ⟨c,hc⟩:∃ c,m.clauses[i]?=some c:=⟨_,AB hlt⟩;have hcm:=AE hc;obtain ⟨gk,g2,hgk,hgl,hg2,hg2l⟩:=Hpos.out c hcm;subst hgk;obtain ⟨_,_,_,hcells⟩:=Hcl.out _ kr2;obtain ⟨ha,hc',va,vc,ls,c0,c1,c2,hrow,hlrow,hlits⟩:=hcells i gk c hc rfl;have hiI:(i:Int)<m.clauses.length:=(by omega);have Hlr:=AD hlrow;have Hlits:=AD hlits;have Htake:Hid (m.clauses.take (i+1)=m.clauses.take i++[c]):=AD (by rw [An,hc];rfl);have h4:=Hl4.out c hcm;have Hcm:=AD hcm;have Hrl:=AD (HH.out.rels c hcm);have kK:=AA.alloc [] wr (.cells #[.int .i64 (c.head.rel:Int),.slice ha c.head.terms.length hc',.slice va c.lits.length vc] 154);have hK:=AK.new wr #[.int .i64 (c.head.rel:Int),.slice ha c.head.terms.length hc',.slice va c.lits.length vc] 154;have e2:=hK.cell 2;have HK:=AD hK;have hcb:∀ j,j<w.heap.size→j≠wr.heap.size:=fun j hj=>by omega
     have hcbg:=hcb g hglt;have hcbC:=hcb C hClt;clear hcells hrow hlrow hlits hc hcm hK hcb;generalize hcbn:wr.heap.size=cb at *;go_wp2_with fail
     go_loopw [6,25] (fun y x wr=>∃ (j:Nat) (b:Bool) (v3:List Nat),y=.bool b∧x=.int .i64 j∧j≤c.lits.length∧QG w wr g C n cc Inv v3∧AK wr cb #[.int .i64 (c.head.rel:Int),.slice ha c.head.terms.length hc',.slice va c.lits.length vc]∧IY hangG vs v3 b (Qp (m.clauses.take i) c.head.rel (c.lits.take j))) (fun _ x _=>c.lits.length - (intOf x).toNat)
     case atStart=>exact ⟨0,b,v2,rfl,rfl,by omega,HS2.out.go kK,HK.out,HP2.out.mono (fun h l hd=>PD hd)⟩
     case round=>
      clear c0 c1 c2 kK HK e2 HS2 HP2 kr2;obtain ⟨j,b,v3,rfl,rfl,hjl,hS3,hcl3,hP3⟩:=hrel;have kr3:=Mr k0 hg0 hS3.keep;have hsz3:=hS3.keep.size;have HS3:=AD hS3;have HP3:=AD hP3;have Hcl3:=AD hcl3;have hcbl:=hcl3.lt;clear hS3 hP3 hcl3;by_cases hjlt:j<c.lits.length
      ·obtain ⟨l,hl⟩:∃ l,c.lits[j]?=some l:=⟨_,AB hjlt⟩;have hlm:=AE hl;obtain ⟨v,hv1,hv2⟩:=Hlits.out.at hl;obtain ⟨x1,x2,hvv⟩:=Al hv2;subst hvv;have hcr:=AH Hlr.out kr3;obtain ⟨gt,hgt⟩:=DK hcr (by omega);subst hgt;have d0:wr.cell? ⟨gt,j * 3,none⟩=some (.int .i64 (l.1.rel:Int)):=BL hcr (by have:=hv1 0 (by omega);rw [CY] at this;rw [this];rfl);have d1:wr.cell? ⟨gt,j * 3+1,none⟩=some (.slice x1 l.1.terms.length x2):=BL hcr (by rw [hv1 1 (by omega)];rfl);have d2:wr.cell? ⟨gt,j * 3+2,none⟩=some (.bool l.2):=BL hcr (by rw [hv1 2 (by omega)];rfl);have hgtl:gt<wr.heap.size:=(Bd hcr gt rfl).2;have hjI:(j:Int)<c.lits.length:=(by omega);have kL:=AA.alloc [] wr (.cells #[.int .i64 (l.1.rel:Int),.slice x1 l.1.terms.length x2,.bool l.2] 279);have hLc:=AK.new wr #[.int .i64 (l.1.rel:Int),.slice x1 l.1.terms.length x2,.bool l.2] 279;have hlen:=HH.out.len HS3.out.inv;have hhr:c.head.rel<v3.length:=by rw [hlen];exact Hrl.out.1
       have hlr2:l.1.rel<n:=Hrl.out.2 l hlm;have hv64:=H64.out v3 HS3.out.inv;have hS4:=HS3.out.go kL;have hc4:=Hcl3.out.keeps kL;have f0:=hc4.cell 0;have f1:(wr.alloc (.cells #[.int .i64 (l.1.rel:Int),.slice x1 l.1.terms.length x2,.bool l.2] 279)).cell? ⟨g,c.head.rel,none⟩=some (.int .i64 ((v3.getD c.head.rel 0:Nat):Int)):=by rw [hS4.row.cell];exact Fu hhr
       have l0:=hLc.cell 0;have l1:=hLc.cell 1;have l2:=hLc.cell 2;have kLd:=kL.trans (AA.drew [] _);have hS5:=HS3.out.go kLd;have hcall:=AD (Uh hS5.row hS5.cap hlen (v3.getD c.head.rel 0) l x1 l.1.terms.length x2 hlr2 (hv64 _) (hv64 _));have hIn:=AD (HH.out.keep HS3.out.inv Hcm.out hlm)
       have hPn:=AD (HP3.out.step HH.out HS3.out.inv Hcm.out hlm (done':=Qp (m.clauses.take i) c.head.rel (c.lits.take (j+1))) (fun h x hd=>by
        rcases hd with q | ⟨q1,q2⟩
        ·exact .inl (.inl q)
        ·rw [An,hl] at q2;rcases AC.1 q2 with q | q
         ·exact .inl (.inr ⟨q1,q⟩)
         ·exact .inr ⟨q1,by simpa using q⟩))
       have hhI:(c.head.rel:Int)<n:=(by omega);have HSd:=AD (fun (W:World) (k:AA [] (wr.alloc (.cells #[.int .i64 (l.1.rel:Int),.slice x1 l.1.terms.length x2,.bool l.2] 279)).drew W)=>hS5.go k);have Hcd:=AD (fun (W:World) (k:AA [] (wr.alloc (.cells #[.int .i64 (l.1.rel:Int),.slice x1 l.1.terms.length x2,.bool l.2] 279)).drew W)=>(hc4.keeps (AA.drew [] _)).keeps k);have Hhr:=AD hhr;clear hv1 hv2 hcr hl hLc hS4 hS5 hv64 hlen hc4;generalize hNew:hangG v3 (v3.getD c.head.rel 0) l=NV at *;generalize hOld:v3.getD c.head.rel 0=OV at *;clear hNew;go_upto_region 10 with fail
       go_cut [] (fun wd=>QG w wd g C n cc Inv (v3.set c.head.rel NV)∧AK wd cb #[.int .i64 (c.head.rel:Int),.slice ha c.head.terms.length hc',.slice (some ⟨gt,0,none⟩) c.lits.length vc])
       case first=>
        go_region_law (first
         | (refine XR rfl 256 _ _ _ rfl [.pointer (some ⟨C,0,none⟩)] rfl _ func256 (by kernel_rfl) (by kernel_rfl) [.int .i64 (OV:Int),.agg #[.int .i64 (l.1.rel:Int),.slice x1 l.1.terms.length x2,.bool l.2],.pointer (some ⟨C,0,none⟩)] rfl ?_
            refine hcall.out.mono ?_;rintro e w4 ⟨rfl,k4⟩;have hS6:=HSd.out _ k4;have hc6:=Hcd.out _ k4;have p0:=hc6.cell 0;have p1:w4.cell? ⟨g,c.head.rel,none⟩=some (.int .i64 (OV:Int)):=by rw [hS6.row.cell,←hOld];exact Fu Hhr.out
            have p2:=hS6.row.frozen c.head.rel;have hEnd:=AD (hS6.put hgC hIn.out);have hEc:=AD (hc6.keeps (AA.setCell w4 ⟨g,c.head.rel,none⟩ (.int .i64 (NV:Int))) (by simp;omega))
            clear hS6 hc6))
        all_goals
         go_wp2_with fail
         go_meet
         exact ⟨hEnd.out,hEc.out⟩
       case rest=>
        obtain ⟨hS7,hc7⟩:=hcut;have r0:=hc7.cell 0;have r1:wc.cell? ⟨g,c.head.rel,none⟩=some (.int .i64 (NV:Int)):=by
         rw [hS7.row.cell,Fu (by rw [BI];exact Hhr.out),KD v3 Hhr.out,if_pos rfl]
        have HS7:=AD hS7;have Hc7:=AD hc7;clear hS7 hc7 f0 f1 l0 l1 l2 hcall HSd Hcd hIn HS3 HP3;cases b with
        | true=>
         rw [Bool.true_or] at hPn;go_wp2_with fail
         go_roundw
         ·exact ⟨j+1,true,v3.set c.head.rel NV,rfl,by simp,by omega,HS7.out,Hc7.out,hPn.out⟩
         ·simp only [intOf];omega
        | false=>
         rw [Bool.false_or] at hPn;generalize hbb:((NV:Int) != (OV:Int))=bb at *;go_wp2_with fail
         go_roundw
         ·exact ⟨j+1,bb,v3.set c.head.rel NV,rfl,by simp,by omega,HS7.out,Hc7.out,hPn.out⟩
         ·simp only [intOf];omega
      ·have hjI:¬ (j:Int)<c.lits.length:=(by omega);have e:j=c.lits.length:=(by omega);subst e;go_wp2_with fail
       go_roundw
       ·exact ⟨i+1,b,v3,rfl,by simp,by omega,HS3.out,by rw [Htake.out];exact HP3.out.mono (fun h l hd=>Qo hd)⟩
       ·simp only [intOf];omega
    ·have hiI:¬ (i:Int)<m.clauses.length:=(by omega);have e:i=m.clauses.length:=(by omega);subst e;have hsum:=Lv HS2.out.row;have hsum0:=Lv HS.out.row;have hle:=Z9 (HH.out.le HS2.out.inv);rw [HH.out.len HS2.out.inv] at hle
     have Hs:Hid (2 * (n * U - QQ wr g)+tv (.bool b)<2 * (n * U - vs.sum)+1):=AD (by
      rw [hsum];generalize n * U=NU at *;rcases HP2.out with ⟨h1,h2⟩ | ⟨h1,h2,_⟩
      ·rw [h1];simp only [tv];omega
      ·rw [h1,h2];simp only [tv];omega)
     clear hsum hle;go_wp2_with fail
     go_roundw
     ·refine ⟨b,v2,rfl,HS2.out,fun hb=>?_⟩;rcases HP2.out with ⟨h1,_⟩ | ⟨_,_,h3⟩
      ·rw [hb] at h1;cases h1
      ·intro c hc l hl;exact h3 c.head.rel l ⟨c,by rw [Bp];exact hc,rfl,hl⟩
     ·have:=Hs.out;rw [←hsum0] at this;exact this
theorem WO {w:World} {g C n cc:Nat} {vals:List Nat} (hg:AK w g (Gd vals)) (hC:AK w C #[.slice (some ⟨g,0,none⟩) n cc]) (hn:vals.length=n) (v:Nat) (l:BW×Bool) (va:Option Addr) (vn vc:Nat) (hl:l.1.rel<n) (_:v<64) (hvl:vals.getD l.1.rel 0<64):Calls prog 257 #[.int .i64 (v:Int),.agg #[.int .i64 (l.1.rel:Int),.slice va vn vc,.bool l.2],.pointer (some ⟨C,0,none⟩)] w fun e w'=>e=.returned (.int .i64 ((layG vals v l:Nat):Int))∧AA [] w w':=by
 have hgl:=hg.lt;have hCl:=hC.lt;have c0:=hC.cell 0;have g0:w.cell? ⟨g,l.1.rel,none⟩=some (.int .i64 ((vals.getD l.1.rel 0:Nat):Int)):=by rw [hg.cell];exact Fu (by omega)
 have hlI:(l.1.rel:Int)<n:=by omega
 have hG:layG vals v l=max v (vals.getD l.1.rel 0+(if l.2 then 1 else 0)):=rfl;rw [hG];generalize vals.getD l.1.rel 0=M at *;clear hg hC hG;cases h2:l.2 with
 | true=>
  have kA:=AA.alloc [] w (.cells #[.int .i64 (l.1.rel:Int),.slice va vn vc,.bool true] 279);have e:((max v (M+(if true=true then 1 else 0)):Nat):Int)=max (v:Int) ((M:Int)+1):=by simp;omega
  rw [e];clear h2 e;go_in
  go_wp2_with fail
  go_ret
  exact ⟨rfl,kA⟩
 | false=>
  have kA:=AA.alloc [] w (.cells #[.int .i64 (l.1.rel:Int),.slice va vn vc,.bool false] 279);have e:((max v (M+(if false=true then 1 else 0)):Nat):Int)=max (v:Int) (M:Int):=by simp;omega
  rw [e];clear h2 e;go_in
  go_wp2_with fail
  go_ret
  exact ⟨rfl,kA⟩
set_option maxHeartbeats 16000000 in
theorem Nq {w0 w:World} {mb B g C n cc U:Nat} {m:Mean} {Inv:List Nat→Prop} (hm:B5 w0 mb B m) (k0:AA [] w0 w) (hg0:w0.heap.size≤g) (hgC:C≠g) (H:Pk m.clauses layG U n Inv) (h64:∀ vals,Inv vals→∀ i,vals.getD i 0<64) (hl:m.clauses.length≤52) (hl4:∀ c∈m.clauses,c.lits.length≤4) {vals:List Nat} (h:QG w w g C n cc Inv vals):Calls prog 255 #[.pointer (some ⟨B,0,none⟩),.slice (some ⟨g,0,none⟩) n cc,.func (.func 257) #[] #[.pointer (some ⟨C,0,none⟩)]] w fun e w'=>e=.returned (.tuple #[])∧∃ vals',QG w w' g C n cc Inv vals'∧Dr layG m.clauses vals':=by
 obtain ⟨a,ccl,la,lc,hBl,hpos,hcl⟩:=Hi hm;have hsz0:=k0.size;have Hcl:=AD (fun (W:World) (k:AA [] w0 W)=>hcl k);have Hpos:=AD hpos;have Hh:=AD h;have HH:=AD H;have H64:=AD h64;have Hl4:=AD hl4;have hglt:=h.row.lt;have hClt:=h.cap.lt;clear hcl hpos hm h H h64 hl4;go_in
 go_wp2_with fail
 go_loopw [6] (fun y wr=>∃ (b:Bool) (vs:List Nat),y=.bool b∧QG w wr g C n cc Inv vs∧(b=false→Dr layG m.clauses vs)) (fun y wr=>2 * (n * U - QQ wr g)+tv y)
 case atStart=>exact ⟨true,vals,rfl,Hh.out,by simp⟩
 case round=>
  obtain ⟨b,vs,rfl,hS,hst⟩:=hrel;have HS:=AD hS;clear hS Hh;cases b with
  | false=>
   have Hst:=AD (hst rfl);clear hst;go_wp2_with fail
   go_end0
   exact ⟨rfl,vs,HS.out,Hst.out⟩
  | true=>
   clear hst;have kr:=Mr k0 hg0 HS.out.keep;obtain ⟨b6,_⟩:=Hcl.out wr kr;have hszr:=HS.out.keep.size;go_wp2_with fail
   go_loopw [6,18] (fun y x wr=>∃ (i:Nat) (b:Bool) (v2:List Nat),y=.bool b∧x=.int .i64 i∧i≤m.clauses.length∧QG w wr g C n cc Inv v2∧IY layG vs v2 b (Ur (m.clauses.take i))) (fun _ x _=>m.clauses.length - (intOf x).toNat)
   case atStart=>exact ⟨0,false,vs,rfl,rfl,by omega,HS.out,.inr ⟨rfl,rfl,fun h l hd=>by obtain ⟨c,hc,_⟩:=hd;simp at hc⟩⟩
   case round=>
    clear b6 kr;obtain ⟨i,b,v2,rfl,rfl,hil,hS2,hP2⟩:=hrel;have kr2:=Mr k0 hg0 hS2.keep;have hsz2:=hS2.keep.size;have HS2:=AD hS2;have HP2:=AD hP2;clear hS2 hP2;by_cases hlt:i<m.clauses.length
    ·obtain ⟨c,hc⟩:∃ c,m.clauses[i]?=some c:=⟨_,AB hlt⟩;have hcm:=AE hc;obtain ⟨gk,g2,hgk,hgl,hg2,hg2l⟩:=Hpos.out c hcm;subst hgk;obtain ⟨_,_,_,hcells⟩:=Hcl.out _ kr2;obtain ⟨ha,hc',va,vc,ls,c0,c1,c2,hrow,hlrow,hlits⟩:=hcells i gk c hc rfl;have hiI:(i:Int)<m.clauses.length:=(by omega);have Hlr:=AD hlrow;have Hlits:=AD hlits;have Htake:Hid (m.clauses.take (i+1)=m.clauses.take i++[c]):=AD (by rw [An,hc];rfl);have h4:=Hl4.out c hcm;have Hcm:=AD hcm;have Hrl:=AD (HH.out.rels c hcm);have kK:=AA.alloc [] wr (.cells #[.int .i64 (c.head.rel:Int),.slice ha c.head.terms.length hc',.slice va c.lits.length vc] 154);have hK:=AK.new wr #[.int .i64 (c.head.rel:Int),.slice ha c.head.terms.length hc',.slice va c.lits.length vc] 154;have e2:=hK.cell 2;have HK:=AD hK;have hcb:∀ j,j<w.heap.size→j≠wr.heap.size:=fun j hj=>by omega
     have hcbg:=hcb g hglt;have hcbC:=hcb C hClt;clear hcells hrow hlrow hlits hc hcm hK hcb;generalize hcbn:wr.heap.size=cb at *;go_wp2_with fail
     go_loopw [6,25] (fun y x wr=>∃ (j:Nat) (b:Bool) (v3:List Nat),y=.bool b∧x=.int .i64 j∧j≤c.lits.length∧QG w wr g C n cc Inv v3∧AK wr cb #[.int .i64 (c.head.rel:Int),.slice ha c.head.terms.length hc',.slice va c.lits.length vc]∧IY layG vs v3 b (Qp (m.clauses.take i) c.head.rel (c.lits.take j))) (fun _ x _=>c.lits.length - (intOf x).toNat)
     case atStart=>exact ⟨0,b,v2,rfl,rfl,by omega,HS2.out.go kK,HK.out,HP2.out.mono (fun h l hd=>PD hd)⟩
     case round=>
      clear c0 c1 c2 kK HK e2 HS2 HP2 kr2;obtain ⟨j,b,v3,rfl,rfl,hjl,hS3,hcl3,hP3⟩:=hrel;have kr3:=Mr k0 hg0 hS3.keep;have hsz3:=hS3.keep.size;have HS3:=AD hS3;have HP3:=AD hP3;have Hcl3:=AD hcl3;have hcbl:=hcl3.lt;clear hS3 hP3 hcl3;by_cases hjlt:j<c.lits.length
      ·obtain ⟨l,hl⟩:∃ l,c.lits[j]?=some l:=⟨_,AB hjlt⟩;have hlm:=AE hl;obtain ⟨v,hv1,hv2⟩:=Hlits.out.at hl;obtain ⟨x1,x2,hvv⟩:=Al hv2;subst hvv;have hcr:=AH Hlr.out kr3;obtain ⟨gt,hgt⟩:=DK hcr (by omega);subst hgt;have d0:wr.cell? ⟨gt,j * 3,none⟩=some (.int .i64 (l.1.rel:Int)):=BL hcr (by have:=hv1 0 (by omega);rw [CY] at this;rw [this];rfl);have d1:wr.cell? ⟨gt,j * 3+1,none⟩=some (.slice x1 l.1.terms.length x2):=BL hcr (by rw [hv1 1 (by omega)];rfl);have d2:wr.cell? ⟨gt,j * 3+2,none⟩=some (.bool l.2):=BL hcr (by rw [hv1 2 (by omega)];rfl);have hgtl:gt<wr.heap.size:=(Bd hcr gt rfl).2;have hjI:(j:Int)<c.lits.length:=(by omega);have kL:=AA.alloc [] wr (.cells #[.int .i64 (l.1.rel:Int),.slice x1 l.1.terms.length x2,.bool l.2] 279);have hLc:=AK.new wr #[.int .i64 (l.1.rel:Int),.slice x1 l.1.terms.length x2,.bool l.2] 279;have hlen:=HH.out.len HS3.out.inv;have hhr:c.head.rel<v3.length:=by rw [hlen];exact Hrl.out.1
       have hlr2:l.1.rel<n:=Hrl.out.2 l hlm;have hv64:=H64.out v3 HS3.out.inv;have hS4:=HS3.out.go kL;have hc4:=Hcl3.out.keeps kL;have f0:=hc4.cell 0;have f1:(wr.alloc (.cells #[.int .i64 (l.1.rel:Int),.slice x1 l.1.terms.length x2,.bool l.2] 279)).cell? ⟨g,c.head.rel,none⟩=some (.int .i64 ((v3.getD c.head.rel 0:Nat):Int)):=by rw [hS4.row.cell];exact Fu hhr
       have l0:=hLc.cell 0;have l1:=hLc.cell 1;have l2:=hLc.cell 2;have kLd:=kL.trans (AA.drew [] _);have hS5:=HS3.out.go kLd;have hcall:=AD (WO hS5.row hS5.cap hlen (v3.getD c.head.rel 0) l x1 l.1.terms.length x2 hlr2 (hv64 _) (hv64 _));have hIn:=AD (HH.out.keep HS3.out.inv Hcm.out hlm)
       have hPn:=AD (HP3.out.step HH.out HS3.out.inv Hcm.out hlm (done':=Qp (m.clauses.take i) c.head.rel (c.lits.take (j+1))) (fun h x hd=>by
        rcases hd with q | ⟨q1,q2⟩
        ·exact .inl (.inl q)
        ·rw [An,hl] at q2;rcases AC.1 q2 with q | q
         ·exact .inl (.inr ⟨q1,q⟩)
         ·exact .inr ⟨q1,by simpa using q⟩))
       have hhI:(c.head.rel:Int)<n:=(by omega);have HSd:=AD (fun (W:World) (k:AA [] (wr.alloc (.cells #[.int .i64 (l.1.rel:Int),.slice x1 l.1.terms.length x2,.bool l.2] 279)).drew W)=>hS5.go k);have Hcd:=AD (fun (W:World) (k:AA [] (wr.alloc (.cells #[.int .i64 (l.1.rel:Int),.slice x1 l.1.terms.length x2,.bool l.2] 279)).drew W)=>(hc4.keeps (AA.drew [] _)).keeps k);have Hhr:=AD hhr;clear hv1 hv2 hcr hl hLc hS4 hS5 hv64 hlen hc4;generalize hNew:layG v3 (v3.getD c.head.rel 0) l=NV at *;generalize hOld:v3.getD c.head.rel 0=OV at *;clear hNew;go_upto_region 10 with fail
       go_cut [] (fun wd=>QG w wd g C n cc Inv (v3.set c.head.rel NV)∧AK wd cb #[.int .i64 (c.head.rel:Int),.slice ha c.head.terms.length hc',.slice (some ⟨gt,0,none⟩) c.lits.length vc])
       case first=>
        go_region_law (first
         | (refine XR rfl 257 _ _ _ rfl [.pointer (some ⟨C,0,none⟩)] rfl _ func257 (by kernel_rfl) (by kernel_rfl) [.int .i64 (OV:Int),.agg #[.int .i64 (l.1.rel:Int),.slice x1 l.1.terms.length x2,.bool l.2],.pointer (some ⟨C,0,none⟩)] rfl ?_
            refine hcall.out.mono ?_;rintro e w4 ⟨rfl,k4⟩;have hS6:=HSd.out _ k4;have hc6:=Hcd.out _ k4;have p0:=hc6.cell 0;have p1:w4.cell? ⟨g,c.head.rel,none⟩=some (.int .i64 (OV:Int)):=by rw [hS6.row.cell,←hOld];exact Fu Hhr.out
            have p2:=hS6.row.frozen c.head.rel;have hEnd:=AD (hS6.put hgC hIn.out);have hEc:=AD (hc6.keeps (AA.setCell w4 ⟨g,c.head.rel,none⟩ (.int .i64 (NV:Int))) (by simp;omega))
            clear hS6 hc6))
        all_goals
         go_wp2_with fail
         go_meet
         exact ⟨hEnd.out,hEc.out⟩
       case rest=>
        obtain ⟨hS7,hc7⟩:=hcut;have r0:=hc7.cell 0;have r1:wc.cell? ⟨g,c.head.rel,none⟩=some (.int .i64 (NV:Int)):=by
         rw [hS7.row.cell,Fu (by rw [BI];exact Hhr.out),KD v3 Hhr.out,if_pos rfl]
        have HS7:=AD hS7;have Hc7:=AD hc7;clear hS7 hc7 f0 f1 l0 l1 l2 hcall HSd Hcd hIn HS3 HP3;cases b with
        | true=>
         rw [Bool.true_or] at hPn;go_wp2_with fail
         go_roundw
         ·exact ⟨j+1,true,v3.set c.head.rel NV,rfl,by simp,by omega,HS7.out,Hc7.out,hPn.out⟩
         ·simp only [intOf];omega
        | false=>
         rw [Bool.false_or] at hPn;generalize hbb:((NV:Int) != (OV:Int))=bb at *;go_wp2_with fail
         go_roundw
         ·exact ⟨j+1,bb,v3.set c.head.rel NV,rfl,by simp,by omega,HS7.out,Hc7.out,hPn.out⟩
         ·simp only [intOf];omega
      ·have hjI:¬ (j:Int)<c.lits.length:=(by omega);have e:j=c.lits.length:=(by omega);subst e;go_wp2_with fail
       go_roundw
       ·exact ⟨i+1,b,v3,rfl,by simp,by omega,HS3.out,by rw [Htake.out];exact HP3.out.mono (fun h l hd=>Qo hd)⟩
       ·simp only [intOf];omega
    ·have hiI:¬ (i:Int)<m.clauses.length:=(by omega);have e:i=m.clauses.length:=(by omega);subst e;have hsum:=Lv HS2.out.row;have hsum0:=Lv HS.out.row;have hle:=Z9 (HH.out.le HS2.out.inv);rw [HH.out.len HS2.out.inv] at hle
     have Hs:Hid (2 * (n * U - QQ wr g)+tv (.bool b)<2 * (n * U - vs.sum)+1):=AD (by
      rw [hsum];generalize n * U=NU at *;rcases HP2.out with ⟨h1,h2⟩ | ⟨h1,h2,_⟩
      ·rw [h1];simp only [tv];omega
      ·rw [h1,h2];simp only [tv];omega)
     clear hsum hle;go_wp2_with fail
     go_roundw
     ·refine ⟨b,v2,rfl,HS2.out,fun hb=>?_⟩;rcases HP2.out with ⟨h1,_⟩ | ⟨_,_,h3⟩
      ·rw [hb] at h1;cases h1
      ·intro c hc l hl;exact h3 c.head.rel l ⟨c,by rw [Bp];exact hc,rfl,hl⟩
     ·have:=Hs.out;rw [←hsum0] at this;exact this
end
end Go.Proofs.YtgjomknpjigkhaaGreatDoor
