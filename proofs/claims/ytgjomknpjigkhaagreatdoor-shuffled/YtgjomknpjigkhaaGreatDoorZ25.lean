import Derived.Test.YtgjomknpjigkhaaGreatDoorZ21
import Derived.Test.YtgjomknpjigkhaaGreatDoorZ24
import Derived.Test.YtgjomknpjigkhaaGreatDoorZ15
import Derived.OrdersHeld
namespace Go.Proofs.YtgjomknpjigkhaaGreatDoor
open Go.Proofs.Tryz
set_option maxRecDepth 100000
set_option maxHeartbeats 4000000
section
section
variable {P:Program} {ops:Array Oper} {Q:Exit→Act→World→Prop} {md:Region.Mode} {S:World→Prop} {z:Nat}
def FU (P:Program) (md:Region.Mode) (ops:Array Oper) (Q:Exit→Act→World→Prop) (S:World→Prop) (z:Nat):Nat→Array Bool→Act→World→Prop
 | 0,listed,a,w=>Region.ready md ops listed=[]∧Q .normal a w
 | fuel+1,listed,a,w=>(Region.ready md ops listed=[]→Q .normal a w)∧∀ i∈Region.ready md ops listed,wpOp P ops Q i (fun a' w'=>(i≠z→S w')∧FU P md ops Q S z fuel (listed.setIfInBounds i true) a' w') a w
theorem VM (fuel:Nat):∀ (listed:Array Bool) (a:Act) (w:World),FU P md ops Q S z fuel listed a w→wpAny P md ops Q fuel listed a w:=by
 induction fuel with
 | zero=>intro _ _ _ h;exact h
 | succ fuel ih=>intro listed a w h;exact ⟨h.1,fun i hi=>wpOp_mono (fun a' w' q=>ih _ a' w' q.2) (h.2 i hi)⟩
def Jo (md:Region.Mode) (ops:Array Oper) (z i:Nat):Bool:=((ops[z]?).map fun o=>o.after.toList.any fun e=>Region.binds md e && e.on == i).getD false
theorem Yy {i:Nat} {listed:Array Bool} (h:Jo md ops z i=true) (hi:i∈Region.ready md ops listed):z∉Region.ready md ops listed:=by
 intro hz;obtain ⟨_,o,ho,hall⟩:=mem_ready.1 hz;have h0:=(mem_ready.1 hi).1;unfold Jo at h;rw [ho] at h;simp only [A5,BU,List.any_eq_true] at h;obtain ⟨e,he',hb⟩:=h;have he:e∈o.after:=by simpa using he'
 rw [A1] at hb;have h1:=hall e he hb.1;have e1:e.on=i:=by simpa using hb.2
 rw [e1] at h1;rcases BP i listed.size with q | q
 ·simp [q] at h0 h1;rw [h0] at h1;cases h1
 ·simp [Array.getElem?_eq_none q] at h1
theorem RA {i:Nat} {oi:Oper} {v:Value} (hi:ops[i]?=some oi) (hsel:∀ (j:Nat) (o:Oper) cs b,ops[j]?=some o→o.op≠.select cs b) (hQ:∀ c a w,Q (.panic c) (a.put oi.dst v) w→Q (.panic c) a w) (hz:Jo md ops z i=true):∀ (fuel:Nat) (listed:Array Bool) (a:Act) (w:World),
  (∀ j oj,ops[j]?=some oj→j≠i→listed.getD j true=false→(∀ e∈oj.after,Region.binds md e=true→e.on≠i)→oi.apart ops oj=true)→i∈Region.ready md ops listed→YieldsIf P ops S oi v a→S w→FU P md ops Q S z fuel (listed.setIfInBounds i true) (a.put oi.dst v) w→FU P md ops Q S z (fuel+1) listed a w:=by
 intro fuel;induction fuel with
 | zero=>
  intro listed a w _ hr hy hS H;refine ⟨fun h=>(by rw [h] at hr;cases hr),fun j hj=>?_⟩;by_cases e:j=i
  ·subst e;exact hy.wpOp hi hS ⟨fun _=>hS,H⟩
  ·have:=ready_mono hj e;rw [H.1] at this;cases this
 | succ fuel ih=>
  intro listed a w hfree hr hy hS H;refine ⟨fun h=>(by rw [h] at hr;cases hr),fun j hj=>?_⟩;by_cases e:j=i
  ·subst e;exact hy.wpOp hi hS ⟨fun _=>hS,H⟩
  ·have hjz:j≠z:=fun q=>Yy hz hr (q ▸ hj);have hstep:=H.2 j (ready_mono hj e);obtain ⟨hun,oj,hoj,hall⟩:=mem_ready.1 hj;have hno:∀ x∈oj.after,Region.binds md x=true→x.on≠i:=fun x hx hb q=>by
    have h1:=hall x hx hb;have h0:=(mem_ready.1 hr).1;rw [q] at h1;rcases BP i listed.size with h' | h'
    ·simp [h'] at h0 h1;rw [h0] at h1;cases h1
    ·simp [Array.getElem?_eq_none h'] at h1
   have hput:=wpOp_putIf hoj (hfree j oj hoj e hun hno) (fun cs b=>hsel i oi cs b hi) (fun cs b=>hsel j oj cs b hoj) hQ hy hstep;refine wpOp_mono (fun a' w' q=>⟨fun _=>q.2.1 hjz,ih (listed.setIfInBounds j true) a' w' (fun k ok hk hki hkun hkno=>hfree k ok hk hki ?_ hkno) (ready_mono hr (Ne.symm e)) q.1 (q.2.1 hjz) ?_⟩) hput
   ·by_cases hjk:j=k
    ·subst hjk;exact hun
    ·rw [getD_set_ne true hjk] at hkun;exact hkun
   ·rw [Array.setIfInBounds_comm _ _ e];exact q.2.2
theorem Sv {i:Nat} {oi:Oper} {v:Value} {fuel:Nat} {listed:Array Bool} {a:Act} {w:World} (hi:ops[i]?=some oi) (hs:Region.noSelect ops=true) (hf:Region.free md ops listed i=true) (hr:(Region.ready md ops listed).contains i=true) (hz:Jo md ops z i=true) (hQ:∀ c a w,Q (.panic c) (a.put oi.dst v) w→Q (.panic c) a w) (hy:YieldsIf P ops S oi v a) (hS:S w) (h:FU P md ops Q S z fuel (listed.setIfInBounds i true) (a.put oi.dst v) w):FU P md ops Q S z (fuel+1) listed a w:=
 RA hi (Region.noSelect_spec hs) hQ hz fuel listed a w (Region.free_spec hi hf) (by simpa using hr) hy hS h
theorem VN {i:Nat} {o:Oper} {fuel:Nat} {listed:Array Bool} {a:Act} {w:World} (hr:Region.ready md ops listed=[i]) (ho:ops[i]?=some o) (h:∀ K:Act→World→Prop,(∀ a' w',(i≠z→S w')→FU P md ops Q S z fuel (listed.setIfInBounds i true) a' w'→K a' w')→if Region.wanted o (yielded ops a.tmps)=true then Oper.wp P o a w K Q else K (a.put o.dst undef) w):FU P md ops Q S z (fuel+1) listed a w:=by
 refine ⟨fun h0=>(by rw [hr] at h0;cases h0),fun j hj=>?_⟩;rw [hr] at hj;have e:j=i:=by simpa using hj
 subst e;unfold wpOp;simp only [ho];have:=h (fun a' w'=>(j≠z→S w')∧FU P md ops Q S z fuel (listed.setIfInBounds j true) a' w') (fun a' w' h1 h2=>⟨h1,h2⟩);split
 ·rename_i hw;rw [if_pos hw] at this;exact .inl this
 ·rename_i hw;rw [if_neg hw] at this;exact this
theorem HQ {listed:Array Bool} {a:Act} {w:World} {fuel:Nat} (hr:Region.ready md ops listed=[]) (h:Q .normal a w):FU P md ops Q S z fuel listed a w:=by
 cases fuel with
 | zero=>exact ⟨hr,h⟩
 | succ=>exact ⟨fun _=>h,by rw [hr];simp⟩
theorem HO {id:Nat} {a:Act} {w:World} (z:Nat) (S:World→Prop) (hm:P.follows .mixedOrders=true) (h:FU P .any ops Q S z ops.size (Array.replicate ops.size false) a w.drew):(Code.region id ops true).wp P Q a w:=
 wp_region_any hm (VM _ _ _ _ h)
end
end
section
open Go.RowKit
theorem Ig (ts:List Tn) (m:Nat):FV (ts.map VZ++[⟨RS,⟨#[]⟩,m⟩])=De (B3 ts m):=by
 have e:∀ ts:List Tn,FV (ts.map VZ)=De ts:=fun ts=>by
  induction ts with
  | nil=>rfl
  | cons t ts ih=>
   show _++FV (ts.map VZ)=_++De ts;rw [ih];rfl
 have h1:FV (ts.map VZ++[⟨RS,⟨#[]⟩,m⟩])=FV (ts.map VZ)++FV [⟨RS,⟨#[]⟩,m⟩]:=by simp [FV]
 rw [h1,e,B3,I5];rfl
structure HB (w:World) (base p:Nat) (toks:List Tn) (m:Mean) (vals:List Nat) (rv cl tv:Value) (rvs kvs:List Value):Prop where
 cells:AK w p #[rv,cl,tv]
 low:base≤p
 rels:w.ownsRow base 144 3 rv m.rels.length rvs
 relsA:EG w base [] (EF m vals) rvs
 cls:w.ownsRow base 154 3 cl m.clauses.length kvs
 clsA:Du w base [] m.clauses kvs
 toks:w.ownsRow base 129 3 tv toks.length (De toks)
 lay:M6 m.clauses m.rels.length vals
 stable:Dr layG m.clauses vals
def fF (z:Nat) (r:Except I0 (List Tn×Mean)) (e:Ending) (w':World):Prop:=match r with
 | .error f=>e=Cx f.1 f.2
 | .ok (toks,m)=>∃ p vals rv cl tv rvs kvs,e=.returned (.pointer (some ⟨p,0,none⟩))∧HB w' z p toks m vals rv cl tv rvs kvs
theorem EG.farN {w:World} {base:Nat} {X:List Nat} {rs:List HN} {vs:List Value} (h:EG w base X rs vs):EG w base [] rs vs:=by
 induction rs generalizing vs with
 | nil=>exact h
 | cons r rs ih=>
  obtain ⟨v,rest,h1,h2,h3,h4⟩:=h;exact ⟨v,rest,h1,h2,by simp,ih h4⟩
theorem EG.mono {w:World} {base base':Nat} {X:List Nat} {rs:List HN} {vs:List Value} (h:EG w base X rs vs) (hb:base'≤base):EG w base' X rs vs:=by
 induction rs generalizing vs with
 | nil=>exact h
 | cons r rs ih=>
  obtain ⟨v,rest,h1,h2,h3,h4⟩:=h;exact ⟨v,rest,h1,BZ h2 hb,h3,ih h4⟩
theorem Du.farN {w:World} {base base':Nat} {X:List Nat} {cs:List Ac} {vs:List Value} (h:Du w base X cs vs) (hb:base'≤base):Du w base' [] cs vs:=by
 induction cs generalizing vs with
 | nil=>exact h
 | cons r rs ih=>
  obtain ⟨hv,lv,ls,rest,h1,h2,h3,h4,h5,h6,h7⟩:=h;exact ⟨hv,lv,ls,rest,h1,BZ h2 hb,by simp,BZ h4 hb,by simp,(h6.far (by simp)).mono hb,ih h7⟩
theorem FG.fine {sc:Ba} {ts:List Tn} {xs:List BN} (h:FG sc ts xs) (h4:sc.length≤4):KS xs∧xs.length=ts.length:=by
 induction ts generalizing xs with
 | nil=>cases xs with
  | nil=>exact ⟨fun x hx=>(by cases hx),rfl⟩
  | cons x xs=>exact absurd h (by simp [FG])
 | cons t ts ih=>cases xs with
  | nil=>exact absurd h (by simp [FG])
  | cons x xs=>
   obtain ⟨h1,h2⟩:M5 sc t x∧FG sc ts xs:=h;obtain ⟨a,b⟩:=ih h2;refine ⟨fun y hy hv=>?_,by simp [b]⟩;rcases AG.1 hy with rfl | hy
   ·obtain ⟨p,d,hp,hs⟩:=h1.2 hv;refine ⟨p,hp,?_⟩;rcases BP p sc.length with q | q
    ·omega
    ·rw [Af q] at hs;cases hs
   ·exact a y hy hv
theorem II.fine {sc:Ba} {ls:List Dn} {xs:List (BW×Bool)} (h:II sc ls xs) (h4:sc.length≤4) (hl:∀ l∈ls,l.atom.terms.length≤1000000):∀ x∈xs,M2 x.1.terms:=by
 induction ls generalizing xs with
 | nil=>cases xs with
  | nil=>intro x hx;cases hx
  | cons x xs=>exact absurd h (by simp [II])
 | cons l ls ih=>cases xs with
  | nil=>exact absurd h (by simp [II])
  | cons x xs=>
   have h':=h;simp only [II] at h';intro y hy;rcases AG.1 hy with rfl | hy
   ·have hf:=h'.1.fine h4;have:=hl l (by simp);exact ⟨hf.1,by omega⟩
   ·exact ih (by first | exact h'.2.2 | exact h'.2) (fun l hl'=>hl l (by simp [hl'])) y hy
theorem Ex.fine {cs:List (Dx×List Dn)} {xs:List Ac} (h:Ex cs xs) (hc:∀ c∈cs,c.1.terms.length≤1000000∧∀ l∈c.2,l.atom.terms.length≤1000000):∀ x∈xs,JW x:=by
 induction cs generalizing xs with
 | nil=>cases xs with
  | nil=>intro x hx;cases hx
  | cons x xs=>exact absurd h (by simp [Ex])
 | cons c cs ih=>cases xs with
  | nil=>exact absurd h (by simp [Ex])
  | cons x xs=>
   obtain ⟨h1,h2⟩:XD c x∧Ex cs xs:=h;intro y hy;rcases AG.1 hy with rfl | hy
   ·obtain ⟨sc,_,h4,hh,hl,_⟩:=h1;have hf:=hh.fine h4;have:=hc c (by simp);exact ⟨⟨hf.1,by omega⟩,hl.fine h4 this.2⟩
   ·exact ih h2 (fun c' hc'=>hc c' (by simp [hc'])) y hy
theorem Na {p:Ac→Bool} {cs:List Ac} (h:EC p cs=none):∀ c∈cs,p c=false:=by
 induction cs with
 | nil=>intro c hc;cases hc
 | cons c cs ih=>
  simp only [EC] at h;split at h
  ·cases h
  ·rename_i hp;intro x hx;rcases AG.1 hx with rfl | hx
   ·simpa using hp
   ·exact ih h x hx
theorem Se {is:List CM} {c:Dx×List Dn} (h:c∈Fy is):CM.clause c.1 c.2∈is:=by
 induction is with
 | nil=>cases h
 | cons i is ih=>
  cases i with
  | dom n z=>simp only [Fy] at h;exact AP _ (ih h)
  | rel n cs=>simp only [Fy] at h;exact AP _ (ih h)
  | clause a ls=>
   simp only [Fy] at h;rcases AG.1 h with rfl | h
   ·simp
   ·exact AP _ (ih h)
theorem A3 {P:Program} {l r:List Oper} {Q:Exit→Act→World→Prop} {md:Region.Mode} {S:World→Prop} {z:Nat} (i:Nat) {oi:Oper} {v:Value} {fuel:Nat} {listed:Array Bool} {a:Act} {w:World} (hi:l.drop i=oi :: r) (hs:Region.noSelect l.toArray=true) (hf:Region.free md l.toArray listed i=true) (hr:(Region.ready md l.toArray listed).contains i=true) (hz:Jo md l.toArray z i=true) (hQ:∀ c a w,Q (.panic c) (a.put oi.dst v) w→Q (.panic c) a w) (hy:YieldsIf P l.toArray S oi v a) (hS:S w) (h:FU P md l.toArray Q S z fuel (listed.setIfInBounds i true) (a.put oi.dst v) w):FU P md l.toArray Q S z (fuel+1) listed a w:=
 Sv (i:=i) (oi:=oi) (by
  have:l[i]?=some oi:=by
   have e:=List.getElem?_drop (xs:=l) (i:=i) (j:=0);rw [hi] at e;simpa using e.symm
  simpa using this) hs hf hr hz hQ hy hS h
theorem Bs {P:Program} {l r:List Oper} {Q:Exit→Act→World→Prop} {md:Region.Mode} {S:World→Prop} {z:Nat} (i:Nat) {o:Oper} {fuel:Nat} {listed:Array Bool} {a:Act} {w:World} (hr:Region.ready md l.toArray listed=[i]) (hi:l.drop i=o :: r) (h:∀ K:Act→World→Prop,(∀ a' w',(i≠z→S w')→FU P md l.toArray Q S z fuel (listed.setIfInBounds i true) a' w'→K a' w')→if Region.wanted o (yielded l.toArray a.tmps)=true then Oper.wp P o a w K Q else K (a.put o.dst undef) w):FU P md l.toArray Q S z (fuel+1) listed a w:=
 VN (i:=i) (o:=o) hr (by
  have:l[i]?=some o:=by
   have e:=List.getElem?_drop (xs:=l) (i:=i) (j:=0);rw [hi] at e;simpa using e.symm
  simpa using this) h
theorem Om {w:World} {base:Nat} {e:TypeId} {size n:Nat} {v:Value} {xs:List Value} (h:w.ownsRow base e size v n xs):∀ i,v.ownBlock=some i→∃ cs,w.heap[i]?=some (.cells cs e (0,0)):=by
 intro i hi;obtain ⟨_,⟨rfl,_⟩ | ⟨g,cap,cur,rfl,hb,hg,_⟩⟩:=h
 ·simp [Value.ownBlock] at hi
 ·simp only [Value.ownBlock,BD] at hi;subst hi;exact ⟨_,hg⟩
theorem Kd {w:World} {B B':Nat} {e e':TypeId} {size size' n n':Nat} {v v':Value} {xs xs':List Value} (h:w.ownsRow B e size v n xs) (h':w.ownsRow B' e' size' v' n' xs') (he:e≠e'):∀ j,v.ownBlock=some j→v'.ownBlock≠some j:=fun j hj hj'=>by
 obtain ⟨c1,h1⟩:=Om h j hj;obtain ⟨c2,h2⟩:=Om h' j hj';rw [h1] at h2;injection h2 with h2;injection h2 with _ h2;exact he h2
def Yi (r:BF):List Value:=[.slice r.sa r.n r.cc,.int .i64 (r.layer:Int),.int .i64 r.fa,.int .i64 r.tu,.map (some r.rm)]
def L5 (rs:List BF):List Value:=rs.flatMap Yi
theorem Vx (rs:List BF) (r:BF):L5 (rs++[r])=L5 rs++Yi r:=by simp [L5]
theorem aY {us:List BF} {i:Nat} {u:BF} (h:us[i]?=some u) {q:Nat} (hq:q<5):(L5 us)[i * 5+q]?=(Yi u)[q]?:=by
 induction us generalizing i with
 | nil=>simp at h
 | cons y us ih=>
  have e:L5 (y :: us)=Yi y++L5 us:=by simp [L5]
  have hl:(Yi y).length=5:=rfl;cases i with
  | zero=>simp at h;subst h;rw [e,Az (by omega)];congr 1;omega
  | succ i=>rw [e,Av (by omega),hl,show (i+1) * 5+q - 5=i * 5+q by omega];exact ih (by simpa using h)
theorem iX:(prog.info? 148).map (fun i=>(i.zero,i.size,i.bytes))=some (some (.agg #[.slice none 0 0,.int .i64 0,.int .i64 0,.int .i64 0,.map none]),5,56):=by kernel_rfl
theorem Uo {W:World} {a b c d e:Value} {t:TypeId}:∀ (j:Nat) (x:Value),[a,b,c,d,e][j]?=some x→(W.alloc (.cells #[a,b,c,d,e] t)).cell? ((⟨W.heap.size,0,none⟩:Addr).add j)=some x:=by
 intro j x hx;rw [Addr.add_lit,Ag,(AK.new W #[a,b,c,d,e] t).cell];match j with
 | 0=>simpa using hx
 | 1=>simpa using hx
 | 2=>simpa using hx
 | 3=>simpa using hx
 | 4=>simpa using hx
 | j+5=>simp at hx
theorem RI {W:World} {a b c:Value} {t:TypeId}:∀ (j:Nat) (x:Value),[a,b,c][j]?=some x→(W.alloc (.cells #[a,b,c] t)).cell? ((⟨W.heap.size,0,none⟩:Addr).add j)=some x:=by
 intro j x hx;rw [Addr.add_lit,Ag,(AK.new W #[a,b,c] t).cell];match j with
 | 0=>simpa using hx
 | 1=>simpa using hx
 | 2=>simpa using hx
 | j+3=>simp at hx
theorem EG.at {w:World} {base:Nat} {X:List Nat} {rs:List HN} {vs:List Value} (h:EG w base X rs vs) {j:Nat} {r:HN} (hj:rs[j]?=some r):∃ v,vs[j * 3]?=some (.string r.name)∧vs[j * 3+1]?=some v∧vs[j * 3+2]?=some (.int .i64 (r.layer:Int))∧w.ownsRow base 3 1 v r.sizes.length (Fh r.sizes):=by
 induction rs generalizing vs j with
 | nil=>simp at hj
 | cons q rs ih=>
  obtain ⟨v,rest,h1,h2,h3,h4⟩:=h;cases j with
  | zero=>simp at hj;subst hj;subst h1;exact ⟨v,rfl,rfl,rfl,h2⟩
  | succ j=>
   obtain ⟨u,a,b,c,d⟩:=ih h4 (by simpa using hj);subst h1;refine ⟨u,?_,?_,?_,d⟩
   ·rw [show (j+1) * 3=j * 3+3 by omega];simpa using a
   ·rw [show (j+1) * 3+1=j * 3+1+3 by omega];simpa using b
   ·rw [show (j+1) * 3+2=j * 3+2+3 by omega];simpa using c
theorem F8.apart {w:World} {base:Nat} {X Y:List Nat} {tv mv:Value} {ns:List ByteArray} (h:F8 w base X tv mv ns) (hY:∀ j∈Y,j∈X∨w.heap.size≤j):F8 w base Y tv mv ns:=
 ⟨h.row,fun j hj hm=>(hY j hm).elim (h.rowA j hj) (fun q=>by have:=(Bd h.row j hj).2;omega),h.map.imp id (fun ⟨r,h1,h2,h3,h4,h5⟩=>⟨r,h1,h2,h3,fun hm=>(hY r hm).elim h4 (fun q=>by have:=h2.lt;omega),h5⟩)⟩
theorem DB.mk0 {w:World} {B:SB} (h:Aj w B (ST.mk0 12)) (hco:12≤B.co):DB w B (ST.mk0 12):=⟨h,mG 12,(fun _ _ _ _ hg=>nomatch hg),rfl,hco⟩
structure Mk1 (w W:World) (base bb:Nat) (B:SB) (ms:List HN) (j:Nat) (rs:List BF) (tv mv rv:Value):Prop where
 cells:AK W bb #[tv,mv,rv,.slice none 0 0,.pointer (some ⟨B.b,0,none⟩)]
 eng:DB W B (ST.mk0 12)
 ownB:∀ i∈B.own,i<bb
 set:F8 W (bb+1) (bb :: rs.map (·.rm)) tv mv ((ms.take j).map (·.name))
 row:W.ownsRow (bb+1) 148 5 rv rs.length (L5 rs)
 len:rs.length=j
 maps:∀ r∈rs,Bi eI eI W r.rm []∧bb+1≤r.rm
 nodup:(rs.map (·.rm)).Nodup
 like:∀ (i:Nat) (r:BF) (q:HN),rs[i]?=some r→ms[i]?=some q→r.n=q.sizes.length∧r.layer=q.layer∧r.fa=0∧r.tu=0∧r.L=[]∧w.ownsRow base 3 1 (.slice r.sa r.n r.cc) r.n (Fh q.sizes)
structure JY (m:Mean) (a:BW):Prop where
 rel:a.rel<m.rels.length
 len:a.terms.length=(m.cols a.rel).length
 tms:∀ t∈a.terms,JQ t
structure Dt (m:Mean):Prop where
 ok:DA m
 cols:∀ r∈m.rels,0<r.2.length
 heads:∀ c∈m.clauses,JY m c.head
 lits:∀ c∈m.clauses,∀ l∈c.lits,JY m l.1
theorem Gn {m:Mean} {vals:List Nat} {i:Nat} {q:HN}:(EF m vals)[i]?=some q↔∃ nm cols,m.rels[i]?=some (nm,cols)∧q=⟨nm,cols.map m.size,vals.getD i 0⟩:=by
 unfold EF;rw [AW,List.getElem?_zipIdx];constructor
 ·intro h;cases hr:m.rels[i]? with
  | none=>rw [hr] at h;simp at h
  | some x=>obtain ⟨nm,cols⟩:=x;rw [hr] at h;simp at h;exact ⟨nm,cols,rfl,h.symm⟩
 ·rintro ⟨nm,cols,hr,rfl⟩;rw [hr];simp
theorem Ti (m:Mean) (vals:List Nat):(EF m vals).map (·.name)=m.rels.map Prod.fst:=by
 apply Bj;intro i;rw [AW,AW];cases hr:m.rels[i]? with
 | none=>
  have:(EF m vals)[i]?=none:=by rw [CO,Ii];exact CO.1 hr
  rw [this];rfl
 | some x=>
  obtain ⟨nm,cols⟩:=x;rw [Gn.2 ⟨nm,cols,hr,rfl⟩];rfl
theorem bU {m:Mean} {vals:List Nat} (hok:DA m) {j:Nat} {q:HN} (hq:(EF m vals)[j]?=some q):Dp (((EF m vals).take j).map (·.name)) q.name=none:=by
 unfold Dp;rw [Ct];intro x hx;obtain ⟨y,hy,rfl⟩:=AM.1 hx;obtain ⟨i,hi,rfl⟩:=A0 hy;have hij:i<j:=by have:=hi;simp at this;omega
 simp only [decide_eq_false_iff_not];intro e;have h1:(EF m vals)[i]?=some (((EF m vals).take j)[i]):=by
  rw [List.getElem_take];exact AB _
 obtain ⟨n1,c1,r1,e1⟩:=Gn.1 h1;obtain ⟨n2,c2,r2,e2⟩:=Gn.1 hq;have:=hok.onceR i j _ _ r1 r2 (by rw [e1,e2] at e;exact e);omega
theorem Th (S:ST) (c:Nat) {R:List Nat→Prop} (h:∀ l,¬ R l):GW S 0 c R:=⟨Es S,fun σ=>by rw [CI];simp [h]⟩
theorem Mk1.bse {w W:World} {base bb:Nat} {B:SB} {m:Mean} {vals:List Nat} {rs:List BF} {tv mv rv:Value} (hM:Mk1 w W base bb B (EF m vals) m.rels.length rs tv mv rv) (hf:Dt m) (h0:0<m.rels.length):∃ gr cr,rv=.slice (some ⟨gr,0,none⟩) rs.length cr∧F9 W bb B (ST.mk0 12) gr cr rs tv mv (.slice none 0 0)∧En (ST.mk0 12) rs (fun _ _=>False) (fun _ _=>none)∧F8 W (bb+1) (bb :: ftp B gr rs) tv mv (m.rels.map Prod.fst):=by
 have hl:=hM.len;obtain ⟨a,cr,rfl⟩:=Al hM.row;obtain ⟨gr,rfl⟩:=Fr hM.row (by omega);have hgr:=Bd hM.row gr rfl;have hq:∀ (i:Nat) (r:BF),rs[i]?=some r→∃ nm cols,m.rels[i]?=some (nm,cols)∧r.n=cols.length∧r.fa=0∧r.tu=0∧r.L=[]:=fun i r hi=>by
  have hil:=(AL.1 hi).1;obtain ⟨q,hq⟩:∃ q,(EF m vals)[i]?=some q:=⟨_,AB (by rw [Ii];omega)⟩;obtain ⟨nm,cols,h1,rfl⟩:=Gn.1 hq;obtain ⟨a1,_,a3,a4,a5,_⟩:=hM.like i r _ hi hq;exact ⟨nm,cols,h1,by simpa using a1,a3,a4,a5⟩
 have hmem:∀ r∈rs,∃ i:Nat,rs[i]?=some r:=fun r hr=>List.getElem?_of_mem hr;have hrow:∃ cs,AK W gr cs∧Pf cs rs:=by
  obtain ⟨_,cs,t,hh⟩:=As hM.row gr rfl;have hc:AK W gr cs:=⟨t,hh⟩;refine ⟨cs,hc,fun i r hi=>?_⟩;have at_:∀ q v,q<5→(Yi r)[q]?=some v→cs[i * 5+q]?=some v:=fun q v hq hv=>by
   rw [←hc.cell];exact BL hM.row (by rw [aY hi hq];exact hv)
  exact ⟨at_ 0 _ (by omega) rfl,at_ 1 _ (by omega) rfl,at_ 2 _ (by omega) rfl,at_ 3 _ (by omega) rfl,at_ 4 _ (by omega) rfl⟩
 have hgrm:∀ r∈rs,gr≠r.rm:=fun r hr e=>by
  obtain ⟨_,cs,t,hh⟩:=As hM.row gr rfl;obtain ⟨_,_,h5,_⟩:=(hM.maps r hr).1;rw [←e,hh] at h5;cases h5
 have ownB:∀ i,bb≤i→i∉B.own:=fun i hi hm=>by have:=hM.ownB i hm;omega
 refine ⟨gr,cr,rfl,⟨hM.cells,hM.eng,hrow,fun r hr=>?_,ownB _ (AQ _),ownB _ (by omega),fun r hr=>ownB _ (by have:=(hM.maps r hr).2;omega),by omega,fun r hr=>by have:=(hM.maps r hr).2;omega,hgrm,hM.nodup,by have:=hf.ok.rels;omega,fun r hr=>?_⟩,fun i r hi=>?_,?_⟩
 ·obtain ⟨i,hi⟩:=hmem r hr;obtain ⟨nm,cols,_,_,_,_,h5⟩:=hq i r hi;rw [h5];exact (hM.maps r hr).1
 ·obtain ⟨i,hi⟩:=hmem r hr;obtain ⟨nm,cols,h1,h2,_⟩:=hq i r hi;rw [h2];exact (hf.ok.cols _ (AE h1)).1
 ·obtain ⟨nm,cols,_,_,h3,h4,h5⟩:=hq i r hi;refine ⟨by rw [h3];exact Th _ _ (fun _ h=>h),by rw [h4];exact Th _ _ (fun _ h=>by simp at h),fun l _=>by rw [h5];rfl⟩
 ·have hs:=hM.set;have en:((EF m vals).take m.rels.length).map (·.name)=m.rels.map Prod.fst:=by
   rw [A9 (by rw [Ii];exact AQ _),Ti]
  rw [en] at hs;refine ⟨hs.row,fun j hj hm=>?_,hs.map.imp id fun ⟨r,h1,h2,h3,h4,h5⟩=>⟨r,h1,h2,h3,fun hm=>?_,h5⟩⟩
  ·have hb:=(As hs.row j hj).1;simp only [ftp,AG,AC] at hm;rcases hm with hm | hm | hm | hm
   ·omega
   ·exact Kd hs.row hM.row (by decide) j hj (by rw [hm];rfl)
   ·exact hs.rowA j hj (by simp only [AG];exact .inr hm)
   ·exact ownB j (by omega) hm
  ·simp only [ftp,AG,AC] at hm;rcases hm with hm | hm | hm | hm
   ·omega
   ·obtain ⟨_,cs,t,hh⟩:=As hM.row gr rfl;obtain ⟨_,_,h6,_⟩:=h2;rw [hm,hh] at h6;cases h6
   ·exact h4 (by simp only [AG];exact .inr hm)
   ·exact ownB r (by omega) hm
theorem TL {w:World} {base g n c:Nat} {ts:List BN} (h:w.ownsRow base 220 2 (.slice (some ⟨g,0,none⟩) n c) n (EA ts)):ID w g ts:=⟨(Bd h g rfl).2,fun _ _ hj=>⟨BL h (Mf hj).1,BL h (Mf hj).2⟩⟩
theorem HB.clause {w:World} {base p:Nat} {toks:List Tn} {m:Mean} {vals:List Nat} {rv cl tv:Value} {rvs kvs:List Value} (h:HB w base p toks m vals rv cl tv rvs kvs) (hf:Dt m) {i:Nat} {c:Ac} (hi:m.clauses[i]?=some c):∃ k:CluX,k.c=c∧kvs[i * 3]?=some (.int .i64 (c.head.rel:Int))∧kvs[i * 3+1]?=some (.slice (some ⟨k.gt,0,none⟩) c.head.terms.length k.tc)∧kvs[i * 3+2]?=some (.slice k.la c.lits.length k.lc)∧∀ X:List Nat,(∀ j∈X,j<base∨w.heap.size≤j)→Ix w X k:=by
 have hcm:=AE hi;obtain ⟨hv,lv,ls,h1,h2,h3,h4⟩:=h.clsA.at hi;have pos:∀ a:BW,JY m a→0<a.terms.length:=fun a ha=>by
  rw [ha.len];have:=ha.rel;unfold Mean.cols;rw [AB this];exact hf.cols _ (CC this)
 obtain ⟨ah,ch,rfl⟩:=Al h2;obtain ⟨al,cl',rfl⟩:=Al h3;obtain ⟨gt,rfl⟩:=Fr h2 (pos _ (hf.heads c hcm));refine ⟨⟨c,gt,ch,al,cl',[]⟩,rfl,h1 0 (by omega),h1 1 (by omega),h1 2 (by omega),fun X hX=>?_⟩;have no:∀ {g},base≤g∧g<w.heap.size→g∉X:=fun hg hm=>by have:=hX _ hm;omega
 refine ⟨TL h2,no (Bd h2 gt rfl),fun k l hk=>?_⟩;have hlm:=AE hk;obtain ⟨gl,rfl⟩:=Fr h3 (by have:k<c.lits.length:=(AL.1 hk).1;omega);obtain ⟨v,g1,g2⟩:=h4.at hk;obtain ⟨a',c',rfl⟩:=Al g2;obtain ⟨g',rfl⟩:=Fr g2 (pos _ (hf.lits c hcm l hlm));exact ⟨gl,g',c',rfl,(Bd h3 gl rfl).2,no (Bd h3 gl rfl),no (Bd g2 g' rfl),⟨BL h3 (g1 0 (by omega)),BL h3 (g1 1 (by omega)),BL h3 (g1 2 (by omega)),TL g2⟩⟩
def mQ (k:CluX):List Value:=[.int .i64 (k.c.head.rel:Int),.slice (some ⟨k.gt,0,none⟩) k.c.head.terms.length k.tc,.slice k.la k.c.lits.length k.lc]
def P5 (ks:List CluX):List Value:=ks.flatMap mQ
theorem ZD (ks:List CluX) (k:CluX):P5 (ks++[k])=P5 ks++mQ k:=by simp [P5]
theorem iN {us:List CluX} {i:Nat} {u:CluX} (h:us[i]?=some u) {q:Nat} (hq:q<3):(P5 us)[i * 3+q]?=(mQ u)[q]?:=by
 induction us generalizing i with
 | nil=>simp at h
 | cons y us ih=>
  have e:P5 (y :: us)=mQ y++P5 us:=by simp [P5]
  have hl:(mQ y).length=3:=rfl;cases i with
  | zero=>simp at h;subst h;rw [e,Az (by omega)];congr 1;omega
  | succ i=>rw [e,Av (by omega),hl,show (i+1) * 3+q - 3=i * 3+q by omega];exact ih (by simpa using h)
def Ew (cs:List Ac) (i:Nat) (l:List Nat):Prop:=∃ c∈cs,c.lits=[]∧c.head.rel=i∧∃ ν,ν∈DP 4∧c.head.terms.map (Ia ν)=l
def D7 (c:Ac):Bool:=decide (0<c.lits.length)
def Jh (rs0 rs:List BF):Prop:=rs.length=rs0.length∧∀ (i:Nat) (r0:BF),rs0[i]?=some r0→∃ r,rs[i]?=some r∧r={ r0 with fa:=r.fa }
theorem Jh.refl (rs:List BF):Jh rs rs:=⟨rfl,fun _ r h=>⟨r,h,rfl⟩⟩
theorem Jh.set {rs0 rs:List BF} (h:Jh rs0 rs) {i:Nat} {r:BF} (hi:rs[i]?=some r) (f:Int):Jh rs0 (rs.set i { r with fa:=f }):=⟨by rw [BI];exact h.1,fun j r0 hj=>by
 obtain ⟨r1,h1,h2⟩:=h.2 j r0 hj;rw [Aw];by_cases e:i=j
 ·subst e;rw [hi] at h1;cases h1;rw [if_pos rfl,if_pos (AL.1 hi).1];exact ⟨_,rfl,by rw [h2]⟩
 ·rw [if_neg e];exact ⟨r1,h1,h2⟩⟩
theorem Jh.rm {rs0 rs:List BF} (h:Jh rs0 rs):rs.map (·.rm)=rs0.map (·.rm):=by
 apply Bj;intro i;rw [AW,AW];cases hr:rs0[i]? with
 | none=>rw [CO] at hr;rw [CO.2 (by rw [h.1];exact hr)]
 | some r0=>
  obtain ⟨r,h1,h2⟩:=h.2 i r0 hr;rw [h1,h2];rfl
theorem Jh.ftp {rs0 rs:List BF} (h:Jh rs0 rs) {B:SB} {gr:Nat}:ftp B gr rs=ftp B gr rs0:=by unfold YtgjomknpjigkhaaGreatDoor.ftp;rw [h.rm]
structure kU (w W:World) (base bb:Nat) (B:SB) (S:ST) (gr cr:Nat) (rs0 rs:List BF) (tv mv:Value) (ka:Option Addr) (ks:List CluX) (kc:Nat) (cs:List Ac) (ns:List ByteArray):Prop where
 bse:F9 W bb B S gr cr rs tv mv (.slice ka ks.length kc)
 all:En S rs (Ew cs) (fun _ _=>none)
 row:W.ownsRow (bb+1) 154 3 (.slice ka ks.length kc) ks.length (P5 ks)
 rowA:∀ j,(Value.slice ka ks.length kc).ownBlock=some j→j∉bb :: ftp B gr rs0
 set:F8 W (bb+1) (bb :: ftp B gr rs0) tv mv ns
 like:Jh rs0 rs
 clu:∀ k∈ks,∀ X:List Nat,(∀ j∈X,j<base∨w.heap.size≤j)→Ix w X k
 ksc:ks.map (·.c)=cs.filter D7
theorem F9.setX3 {w:World} {bb gr cr:Nat} {B:SB} {S:ST} {rs:List BF} {x0 x1 x3:Value} (h:F9 w bb B S gr cr rs x0 x1 x3) (v:Value):F9 (w.setCell ⟨bb,3,none⟩ v) bb B S gr cr rs x0 x1 v:=by
 have k:=AA.setCell w ⟨bb,3,none⟩ v;have ne:∀ {j},bb≠j→j∉[(⟨bb,3,none⟩:Addr).block]:=fun h hm=>h (by simp only [AF] at hm;exact hm.symm);obtain ⟨cs,h1,h2⟩:=h.rel;exact ⟨by simpa using h.cells.setCell 3 v,h.eng.keeps k (fun i hi hm=>h.bbB (by simp only [AF] at hm;rw [←hm];exact hi)),⟨cs,h1.keeps k (ne h.bbgr),h2⟩,fun r hr=>(h.maps r hr).kept k (ne (h.bbrm r hr)),h.bbB,h.grB,h.rmB,h.bbgr,h.bbrm,h.grrm,h.nodup,h.few,h.cols⟩
theorem ftp_lt {w:World} {bb gr cr:Nat} {B:SB} {S:ST} {rs:List BF} {x0 x1 x3:Value} (h:F9 w bb B S gr cr rs x0 x1 x3):∀ j∈bb :: ftp B gr rs,j<w.heap.size:=fun j hj=>by
 simp only [ftp,AG,AC,AM] at hj;obtain ⟨cs,h1,_⟩:=h.rel;rcases hj with rfl | rfl | ⟨r,hr,rfl⟩ | hj
 ·exact h.cells.lt
 ·exact h1.lt
 ·exact (h.maps r hr).lt
 ·exact h.eng.sat.lt j hj
theorem kU.rule {w W W':World} {base bb:Nat} {B:SB} {S:ST} {gr cr:Nat} {rs0 rs:List BF} {tv mv:Value} {ka:Option Addr} {ks:List CluX} {kc:Nat} {cs:List Ac} {ns:List ByteArray} (h:kU w W base bb B S gr cr rs0 rs tv mv ka ks kc cs ns) {k:CluX} (hk:∀ X:List Nat,(∀ j∈X,j<base∨w.heap.size≤j)→Ix w X k) (hl:0<k.c.lits.length) {g cap:Nat} (ho:W'.ownsRow (bb+1) 154 3 (.slice (some ⟨g,0,none⟩) (ks.length+1) cap) (ks.length+1) (P5 ks++mQ k)) (kp:AA (Aa (.slice ka ks.length kc)) W W') (hg:(Value.slice ka ks.length kc).ownBlock=some g∨W.heap.size≤g) :
  kU w (W'.setCell ⟨bb,3,none⟩ (.slice (some ⟨g,0,none⟩) (ks.length+1) cap)) base bb B S gr cr rs0 rs tv mv (some ⟨g,0,none⟩) (ks++[k]) cap (cs++[k.c]) ns:=by
 have hlf:=h.like.ftp (B:=B) (gr:=gr);have hno:∀ j∈bb :: ftp B gr rs0,j∉Aa (.slice ka ks.length kc):=fun j hj hm=>h.rowA j (by simpa [Aa] using hm) hj;have hgb:g∉bb :: ftp B gr rs0:=by
  rcases hg with hg | hg
  ·exact h.rowA g hg
  ·intro hm;rw [←hlf] at hm;have:=ftp_lt h.bse g hm;omega
 have hE:=h.bse.eng.keeps kp (fun i hi=>hno i (AP _ (DR hi)))
 have hb:=h.bse.other kp (hno bb (by simp)) (hno gr (by simp [ftp])) (fun r hr=>hno _ (by
  rw [←hlf];simp only [ftp,AG,AC,AM]
  exact .inr (.inr (.inl ⟨r,hr,rfl⟩)))) hE
 have kS:=AA.setCell W' ⟨bb,3,none⟩ (.slice (some ⟨g,0,none⟩) (ks.length+1) cap);have hbS:=hb.setX3 (.slice (some ⟨g,0,none⟩) (ks.length+1) cap);refine ⟨by rw [AJ];exact hbS,fun i r hi=>?_,?_,fun j hj=>?_,?_,h.like,fun u hu=>?_,?_⟩
 ·have hr:=h.all i r hi;refine ⟨hr.fa.iff fun l _=>?_,hr.tu,hr.ranks⟩;unfold Ew;constructor
  ·rintro ⟨c,hc,q⟩;exact ⟨c,by simp [hc],q⟩
  ·rintro ⟨c,hc,q⟩;rcases AC.1 hc with hc | hc
   ·exact ⟨c,hc,q⟩
   ·simp only [AF] at hc;subst hc;rw [q.1] at hl;simp at hl
 ·rw [ZD,AJ]
  exact AH ho kS (fun i hi hm=>by
   simp only [AF] at hm;have:=(As ho i hi).1
   omega)
 ·have e:g=j:=by simpa [Value.ownBlock] using hj
  rw [←e];exact hgb
 ·refine (h.set.kept kp (fun i hi hm=>?_) (fun i hi hm=>?_)).kept kS (fun i hi hm=>?_) (fun i hi hm=>?_)
  ·exact Kd h.set.row h.row (by decide) i (by simpa [Aa] using hi) (by simpa [Aa] using hm)
  ·rcases h.set.map with ⟨h3,_⟩ | ⟨r3,h3,h4,_⟩
   ·rw [h3] at hi;simp [mapL] at hi
   ·rw [h3] at hi;simp only [mapL,AF] at hi;subst hi;obtain ⟨_,cs',t,hh⟩:=As h.row i (by simpa [Aa] using hm);obtain ⟨_,_,h6,_⟩:=h4;rw [hh] at h6;cases h6
  ·simp only [AF] at hm;have:=(As h.set.row i (by simpa [Aa] using hi)).1;omega
  ·rcases h.set.map with ⟨h3,_⟩ | ⟨r3,h3,h4,h5,_⟩
   ·rw [h3] at hi;simp [mapL] at hi
   ·rw [h3] at hi;simp only [mapL,AF] at hi hm;omega
 ·rcases AC.1 hu with hu | hu
  ·exact h.clu u hu
  ·simp only [AF] at hu;subst hu;exact hk
 ·rw [Am,List.filter_append,h.ksc];have:D7 k.c=true:=by unfold D7;simpa using hl
  simp [this]
theorem kU.fact {w W W':World} {base bb:Nat} {B:SB} {S S':ST} {gr cr:Nat} {rs0 rs:List BF} {tv mv:Value} {ka:Option Addr} {ks:List CluX} {kc:Nat} {cs:List Ac} {ns:List ByteArray} (h:kU w W base bb B S gr cr rs0 rs tv mv ka ks kc cs ns) (kp:AA B.own W W') (hE:DB W' B S') (x:EK S S') {c:Ac} (hl:c.lits=[]) {r:BF} (hr:rs[c.head.rel]?=some r) {y:Int} (hy:GW S' y r.n (fun l=>Ew cs c.head.rel l∨∃ ν,ν∈DP 4∧c.head.terms.map (Ia ν)=l)) :
  kU w (W'.setCell ⟨gr,c.head.rel * 5+2,none⟩ (.int .i64 y)) base bb B S' gr cr rs0 (rs.set c.head.rel { r with fa:=y }) tv mv ka ks kc (cs++[c]) ns:=by
 have hlf:=h.like.ftp (B:=B) (gr:=gr);have kS:=AA.setCell W' ⟨gr,c.head.rel * 5+2,none⟩ (.int .i64 y);have hwf:=h.bse.eng.wf;have own0:∀ i∈B.own,i∈bb :: ftp B gr rs0:=fun i hi=>AP _ (DR hi);refine ⟨(h.bse.store kp hE).setFa hr y,fun i q hi=>?_,?_,h.rowA,?_,h.like.set hr y,h.clu,?_⟩
 ·have ha:=(h.all.ext x hwf hE.wf).setFa hr hy i q hi;refine ⟨ha.fa.iff fun l _=>?_,ha.tu,ha.ranks⟩;unfold upF;by_cases e:i=c.head.rel
  ·rw [if_pos e];subst e;constructor
   ·rintro (⟨d,hd,q⟩ | q)
    ·exact ⟨d,by simp [hd],q⟩
    ·exact ⟨c,by simp,hl,rfl,q⟩
   ·rintro ⟨d,hd,q⟩;rcases AC.1 hd with hd | hd
    ·exact .inl ⟨d,hd,q⟩
    ·simp only [AF] at hd;subst hd;exact .inr q.2.2
  ·rw [if_neg e];constructor
   ·rintro ⟨d,hd,q⟩;exact ⟨d,by simp [hd],q⟩
   ·rintro ⟨d,hd,q⟩;rcases AC.1 hd with hd | hd
    ·exact ⟨d,hd,q⟩
    ·simp only [AF] at hd;subst hd;exact absurd q.2.1.symm e
 ·refine AH (AH h.row kp (fun i hi hm=>h.rowA i hi (own0 i hm))) kS (fun i hi hm=>h.rowA i hi ?_);simp only [AF] at hm;rw [hm];simp [ftp]
 ·refine (h.set.keeps kp (fun j hj=>.inl (own0 j hj))).keeps kS (fun j hj=>.inl ?_);simp only [AF] at hj;rw [hj];simp [ftp]
 ·rw [List.filter_append,h.ksc];have:D7 c=false:=by unfold D7;simp [hl]
  simp [this]
structure FA (W:World) (z bb:Nat) (B:SB) (S:ST) (gr cr:Nat) (rs:List BF) (tv mv:Value) (ka:Option Addr) (ks:List CluX) (kc:Nat) (m:Mean) (vals:List Nat) (Fs:Nat→List Nat→Prop) (rk:Nat→List Nat→Option Nat):Prop where
 bse:F9 W bb B S gr cr rs tv mv (.slice ka ks.length kc)
 all:En S rs Fs rk
 kls:KU W (List.range z++ftp B gr rs) ka ks
 ksc:ks.map (·.c)=m.clauses.filter D7
 set:F8 W z (bb :: ftp B gr rs) tv mv (m.rels.map Prod.fst)
 low:∀ j∈bb :: ftp B gr rs,z≤j
 len:rs.length=m.rels.length
 rels:∀ (i:Nat) (r:BF) (nm:ByteArray) (cols:List Nat),rs[i]?=some r→m.rels[i]?=some (nm,cols)→r.n=cols.length∧r.layer=vals.getD i 0∧∃ g,r.sa=some ⟨g,0,none⟩∧g∉bb :: ftp B gr rs∧z≤g∧B8 W g (cols.map m.size)
def WkTo (base:Nat) (m:Mean) (vals:List Nat) (w:World) (e:Ending) (w':World):Prop:=
 ∃ bb B S gr cr rs tv mv ka ks kc rk,e=.returned (.pointer (some ⟨bb,0,none⟩))∧FA w' base bb B S gr cr rs tv mv ka ks kc m vals (Ew m.clauses) rk∧E9 rs (Ew m.clauses) ks 0 (fun _ _=>none) rs.length rk∧S.next≤300000000000000∧AA [] w w'
theorem E9.like {rs rs':List BF} (h:DV rs rs') {Fs:Nat→List Nat→Prop} {ks:List CluX} {a b:Nat} {rk rk':Nat→List Nat→Option Nat} (hs:E9 rs Fs ks a rk b rk'):E9 rs' Fs ks a rk b rk':=by
 induction hs with
 | refl=>exact .refl
 | step _ h2 ih=>
  refine .step ih ?_;unfold MT at h2 ⊢;rw [LQ h,L9 h,h.1];obtain ⟨T,e,hx⟩:=h2;refine ⟨T,e,fun i r l hi hl=>?_⟩;have hil:=(AL.1 hi).1;obtain ⟨r0,hr0⟩:∃ r0,rs[i]?=some r0:=⟨_,AB (by rw [←h.1];exact hil)⟩;obtain ⟨r1,h1,h3⟩:=h.2 i r0 hr0;rw [hi] at h1;cases h1;exact hx i r0 l hr0 (by rw [←h3.n];exact hl)
theorem KU.sub {w:World} {X Y:List Nat} {ka:Option Addr} {ks:List CluX} (h:KU w X ka ks) (hY:∀ j∈Y,j∈X):KU w Y ka ks:=by
 refine ⟨fun h0=>?_,fun k hk=>(h.clu k hk).apart (fun j hj=>.inl (hY j hj))⟩;obtain ⟨gk,cs,h1,h2,h3⟩:=h.cells h0;exact ⟨gk,cs,h1,fun hm=>h2 (hY _ hm),h3⟩
theorem mP {w W:World} {base bb:Nat} {B:SB} {S:ST} {gr cr:Nat} {rs0 rs:List BF} {tv mv:Value} {ka:Option Addr} {ks:List CluX} {kc:Nat} {cs:List Ac} {ns:List ByteArray} (h:kU w W base bb B S gr cr rs0 rs tv mv ka ks kc cs ns) (hk:AA [] w W) (hft:∀ j∈ftp B gr rs0,w.heap.size≤j) (hb:base≤bb):KU W (List.range base++ftp B gr rs) ka ks:=by
 have e:=h.like.ftp (B:=B) (gr:=gr);rw [e];refine ⟨fun h0=>?_,fun k hkm=>(h.clu k hkm _ (fun j hj=>(AC.1 hj).imp (fun q=>by simpa using q) (hft j))).keeps hk⟩;obtain ⟨gk,rfl⟩:=Fr h.row h0;obtain ⟨hgb,cs',t,hh⟩:=As h.row gk rfl;have hc:AK W gk cs':=⟨t,hh⟩;refine ⟨gk,cs',rfl,fun hm=>?_,hc,fun i k hi=>?_⟩
 ·rcases AC.1 hm with hm | hm
  ·simp at hm;omega
  ·exact h.rowA gk rfl (AP _ hm)
 ·have at_:∀ q v,q<3→(mQ k)[q]?=some v→cs'[i * 3+q]?=some v:=fun q v hq hv=>by
   rw [←hc.cell];exact BL h.row (by rw [iN hi hq];exact hv)
  exact ⟨at_ 0 _ (by omega) rfl,at_ 1 _ (by omega) rfl,at_ 2 _ (by omega) rfl⟩
end
end Go.Proofs.YtgjomknpjigkhaaGreatDoor
