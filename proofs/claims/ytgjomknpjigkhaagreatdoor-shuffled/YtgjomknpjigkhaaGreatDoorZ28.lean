import Derived.Test.YtgjomknpjigkhaaGreatDoorZ26
import Derived.Test.YtgjomknpjigkhaaGreatDoorZ27
namespace Go.Proofs.YtgjomknpjigkhaaGreatDoor
open Go.Proofs.Tryz
set_option maxRecDepth 100000
set_option maxHeartbeats 4000000
section
open Go.RowKit Go.Shelf
attribute [local go_sem] Oper.semAt_some
section
variable {w:World} {bb gr cr:Nat} {B:SB} {S:ST} {rs:List BF} {x0 x1 x3:Value}
theorem Ym (h:F9 w bb B S gr cr rs x0 x1 x3) {Fs:Nat→List Nat→Prop} {rk:Nat→List Nat→Option Nat} (ha:En S rs Fs rk) {i:Nat} {r:BF} (hi:rs[i]?=some r) {g cap:Nat} {l:List Nat} (hrow:B8 w g (Qq l)) (hl:l∈DP r.n) :
  Calls prog 51 #[.pointer (some ⟨bb,0,none⟩),.int .i64 (i:Int),.slice (some ⟨g,0,none⟩) l.length cap] w fun e w'=>e=.returned (.tuple #[.int .i64 (((rk i l).getD 0:Nat):Int),.bool (rk i l).isSome])∧AA [] w w':=by
 obtain ⟨hl1,hl2⟩:=GT.1 hl;have hrm:=AE hi;have hn3:=h.cols r hrm;have hg:=(ha i r hi).ranks l hl;obtain ⟨cs,hc,hcs⟩:=h.rel;have hil:(i:Int)<rs.length:=by have:=(AL.1 hi).1;omega
 have g4:w.cell? ⟨gr,i * 5+4,none⟩=some (.map (some r.rm)):=by rw [hc.cell];exact (hcs i r hi).c4
 have g2:=h.cells.cell 2;simp at g2;have hkeep:=AD (fun (W:World) (k:AA [] w W)=>show W.cell? ⟨bb,2,none⟩=some (.slice (some ⟨gr,0,none⟩) rs.length cr)∧W.cell? ⟨gr,i * 5+4,none⟩=some (.map (some r.rm)) from ⟨by have:=(h.cells.keeps k).cell 2;simpa using this,by rw [(hc.keeps k).cell];exact (hcs i r hi).c4⟩);have has:=AD (fun (W:World) (k:AA [] w W)=>Sl (w:=W) (cap:=cap) (hrow.keepsE k) (by omega) hl2);have hlk:=AD (fun (W:World) (k:AA [] w W)=>EM (P:=prog) underlying146 In (z:=.int .i64 0) Kp ((h.maps r hrm).kept k (by simp)) (asn l:Int) true);rw [hg] at hlk;have Hl1:=AD hl1;generalize hrv:rk i l=v at hlk ⊢;clear hi hl hl1 hc hcs hg ha h hrow hrv;go_in
 go_wp2_with fail
 go_region_held3 (fun w'=>w'.cell? ⟨bb,2,none⟩=some (.slice (some ⟨gr,0,none⟩) rs.length cr)∧w'.cell? ⟨gr,i * 5+4,none⟩=some (.map (some r.rm))) (first | exact ⟨g2,g4⟩ | exact ⟨a0,a1⟩)
  (first
  | (go_at_call 86
     refine (has.out _ (AA.drew [] _)).mono ?_;rintro e W5 ⟨rfl,k5⟩;obtain ⟨a0,a1⟩:=hkeep.out W5 ((AA.drew [] w).trans k5);have hlk5:=hlk.out W5 ((AA.drew [] w).trans k5)
     simp only [eI,if_true] at hlk5))
 all_goals
  go_wp2_with fail
  go_ret2
  exact ⟨by cases v <;> rfl,(AA.drew [] w).trans k5⟩
theorem Oj {z:Nat} {X:List Nat} {ns:List ByteArray} (h:F9 w bb B S gr cr rs x0 x1 x3) (hs:F8 w z X x0 x1 ns) (s:ByteArray):Calls prog 39 #[.pointer (some ⟨bb,0,none⟩),.string s] w fun e w'=>e=.returned (.tuple #[.int .i64 ((Dp ns s).getD 0:Nat),.bool (Dp ns s).isSome])∧w' = w:=by
 have g1:=h.cells.cell 1;simp at g1;have hp:=AD (EP (B:=bb) (o:=0) hs g1 s);clear g1;go_in
 go_wp2_with fail
 refine hp.out.mono ?_;rintro e w1 ⟨rfl,rfl⟩;go_wp2_with fail
 go_ret2
 exact ⟨rfl,rfl⟩
theorem ZR (h:F9 w bb B S gr cr rs x0 x1 x3) {i:Nat} {r:BF} (hi:rs[i]?=some r) {gs:Nat} {ss:List Int} (hsa:r.sa=some ⟨gs,0,none⟩) (hss:B8 w gs ss) (hsn:ss.length=r.n) {g cap:Nat} {l:List Nat} (hrow:B8 w g (Qq l)) (hln:l.length=r.n) (hfit:∀ (k:Nat) (x:Nat) (y:Int),l[k]?=some x→ss[k]?=some y→(x:Int)<y) :
  Calls prog 84 #[.pointer (some ⟨bb,0,none⟩),.int .i64 (i:Int),.slice (some ⟨g,0,none⟩) l.length cap] w fun e w'=>e=.returned (.bool true)∧AA [] w w':=by
 obtain ⟨cs,hc,hcs⟩:=h.rel;have hn3:=h.cols r (AE hi);have hil:(i:Int)<rs.length:=by have:=(AL.1 hi).1;omega
 have g0:w.cell? ⟨gr,i * 5,none⟩=some (.slice (some ⟨gs,0,none⟩) r.n r.cc):=by rw [hc.cell,←hsa];exact (hcs i r hi).c0
 have g2:=h.cells.cell 2;simp at g2;have Hln:=AD hln;have Hsn:=AD hsn;clear hi hln hsn hc hcs h hsa;go_in
 go_wp2_with fail
 go_loopw [18] (fun y wr=>∃ (k:Nat),y=.int .i64 k∧k≤r.n∧AA [] w wr) (fun y _=>((r.n:Int) - intOf y).toNat)
 case atStart=>exact ⟨0,rfl,by omega,AA.refl _ _⟩
 case round=>
  obtain ⟨k,rfl,hk,hkw⟩:=hrel;by_cases hkn:k<r.n
  ·have hkI:(k:Int)<r.n:=(by omega);have hkl:(k:Int)<l.length:=by have:=Hln.out;omega
   obtain ⟨y,hy⟩:∃ y,ss[k]?=some y:=⟨_,AB (by rw [Hsn.out];exact hkn)⟩;obtain ⟨x,hx⟩:∃ x,l[k]?=some x:=⟨_,AB (by rw [Hln.out];exact hkn)⟩;have hlt:=hfit k x y hx hy;obtain ⟨c1,e1,e2⟩:=hss.keepsE hkw;obtain ⟨c3,e3,e4⟩:=hrow.keepsE hkw;have q1:wr.cell? ⟨gs,k,none⟩=some (.int .i64 y):=by rw [e1.cell];exact e2 k y hy
   have q2:wr.cell? ⟨g,k,none⟩=some (.int .i64 (x:Int)):=by rw [e3.cell];exact e4 k (x:Int) (by simp [Qq,hx])
   have hx0:¬ (x:Int)<0:=(by omega);have hxy:¬ y≤(x:Int):=(by omega);clear hx hy e1 e2 e3 e4;go_wp2_with fail
   exact ⟨⟨k+1,by simp,by omega,hkw⟩,by simp only [intOf];omega⟩
  ·have hkI:¬ (k:Int)<r.n:=(by omega);go_wp2_with fail
   go_ret
   exact ⟨rfl,hkw⟩
end
structure Q4 (m:Mean) (i:Nat) (l:List Nat):Prop where
 rel:∃ nm cols,m.rels[i]?=some (nm,cols)∧l.length=cols.length∧∀ (k x d:Nat),l[k]?=some x→cols[k]?=some d→(x:Int)<m.size d
theorem XS {m:Mean} (h:DA m) (d:Nat):m.size d≤8:=by
 unfold Mean.size;cases hd:m.doms[d]? with
 | none=>simp
 | some x=>exact (h.sizes x (AE hd)).2
section
variable {w:World} {z eb bb:Nat} {B:SB} {S:ST} {gr cr:Nat} {rs:List BF} {tv mv:Value} {ka:Option Addr} {ks:List CluX} {kc:Nat} {m:Mean} {vals:List Nat} {Fs:Nat→List Nat→Prop} {rk:Nat→List Nat→Option Nat}
theorem FA.keeps0 {w':World} (h:FA w z bb B S gr cr rs tv mv ka ks kc m vals Fs rk) (k:AA [] w w'):FA w' z bb B S gr cr rs tv mv ka ks kc m vals Fs rk:=
 ⟨h.bse.keeps0 k,h.all,h.kls.keeps k,h.ksc,h.set.keeps k,h.low,h.len,fun i r nm cols hi hc=>by
  obtain ⟨a,b,g,c,d,e,f⟩:=h.rels i r nm cols hi hc
  exact ⟨a,b,g,c,d,e,f.keepsE k⟩⟩
theorem FA.tup (h:FA w z bb B S gr cr rs tv mv ka ks kc m vals Fs rk) (hok:DA m) {i:Nat} {l:List Nat} (ht:Q4 m i l):∃ r gs ss,rs[i]?=some r∧r.sa=some ⟨gs,0,none⟩∧B8 w gs ss∧ss.length=r.n∧l.length=r.n∧(∀ (k:Nat) (x:Nat) (y:Int),l[k]?=some x→ss[k]?=some y→(x:Int)<y)∧l∈DP r.n:=by
 obtain ⟨nm,cols,hc,hl,hx⟩:=ht.rel;have hil:=(AL.1 hc).1;obtain ⟨r,hr⟩:∃ r,rs[i]?=some r:=⟨_,AB (by rw [h.len];exact hil)⟩;obtain ⟨a,_,g,b,_,_,e⟩:=h.rels i r nm cols hr hc;refine ⟨r,g,_,hr,b,e,by rw [a];simp,by rw [a];exact hl,fun k x y h1 h2=>?_,GT.2 ⟨by rw [a];exact hl,fun x hxm=>?_⟩⟩
 ·rw [AW] at h2;obtain ⟨d,hd,rfl⟩:=Cj.1 h2;exact hx k x d h1 hd
 ·obtain ⟨k,hk,rfl⟩:=A0 hxm;have:=hx k _ _ (AB hk) (AB (by rw [←hl];exact hk));have:=XS hok (cols[k]'(by rw [←hl];exact hk));omega
theorem Py (h:FA w z bb B S gr cr rs tv mv ka ks kc m vals Fs rk) (hok:DA m) (he:AK w eb #[.pointer (some ⟨bb,0,none⟩)]) {s:ByteArray} {i:Nat} (hs:Dp (m.rels.map Prod.fst) s=some i) {g cap:Nat} {l:List Nat} (hrow:B8 w g (Qq l)) (ht:Q4 m i l) :
  Calls prog 46 #[.pointer (some ⟨eb,0,none⟩),.string s,.slice (some ⟨g,0,none⟩) l.length cap] w fun e w'=>e=.returned (.tuple #[.int .i64 (i:Int),.int .i64 0])∧AA [] w w':=by
 obtain ⟨r,gs,ss,hr,hsa,hss,hsn,hln,hfit,_⟩:=h.tup hok ht;have hpl:=AD (fun (W:World) (k:AA [] w W)=>Oj (h.bse.keeps0 k) (h.set.keeps k) s);rw [hs] at hpl;have hco:=AD (fun (W:World) (k:AA [] w W)=>SY (h.bse.keeps0 k) hr);rw [←hln] at hco;have hfi:=AD (fun (W:World) (k:AA [] w W)=>ZR (cap:=cap) (h.bse.keeps0 k) hr hsa (hss.keepsE k) hsn (hrow.keepsE k) hln hfit);have e0:=he.cell 0;simp at e0;clear hln hsn hs;go_in
 go_wp2_with fail
 refine (hpl.out _ (AA.refl _ _)).mono ?_;rintro e w1 ⟨rfl,rfl⟩;go_wp2_with fail
 refine (hco.out _ (AA.refl _ _)).mono ?_;rintro e w1 ⟨rfl,rfl⟩;go_wp2_with fail
 refine (hfi.out _ (AA.refl _ _)).mono ?_;rintro e w1 ⟨rfl,k1⟩;go_wp2_with fail
 go_ret2
 exact ⟨rfl,k1⟩
end
end
section
open Go.RowKit
section
variable {w:World} {z eb bb:Nat} {B:SB} {S:ST} {gr cr:Nat} {rs:List BF} {tv mv:Value} {ka:Option Addr} {ks:List CluX} {kc:Nat} {m:Mean} {vals:List Nat} {Fs:Nat→List Nat→Prop} {rk:Nat→List Nat→Option Nat}
theorem JA (h:FA w z bb B S gr cr rs tv mv ka ks kc m vals Fs rk) (hok:DA m) (he:AK w eb #[.pointer (some ⟨bb,0,none⟩)]) {s:ByteArray} {i:Nat} (hs:Dp (m.rels.map Prod.fst) s=some i) {g cap:Nat} {l:List Nat} (hrow:B8 w g (Qq l)) (ht:Q4 m i l) :
  Calls prog 29 #[.pointer (some ⟨eb,0,none⟩),.string s,.slice (some ⟨g,0,none⟩) l.length cap] w fun e w'=>e=.returned (.tuple #[.int .i64 (((rk i l).getD 0:Nat):Int),.int .i64 (if (rk i l).isSome then 0 else 14)])∧AA [] w w':=by
 obtain ⟨r,hr,hal⟩:∃ r,rs[i]?=some r∧l∈DP r.n:=by
  obtain ⟨r,gs,ss,hr,_,_,_,_,_,hal⟩:=h.tup hok ht;exact ⟨r,hr,hal⟩
 have hpl:=AD (Py (cap:=cap) h hok he hs hrow ht);have hrk:=AD (fun (W:World) (k:AA [] w W)=>Ym (cap:=cap) (h.bse.keeps0 k) h.all hr (hrow.keepsE k) hal);generalize rk i l=v at hrk ⊢;clear hs h hok ht hrow hal hr;go_in
 go_wp2_with fail
 refine hpl.out.mono ?_;rintro e w1 ⟨rfl,k1⟩;have e0:=(he.keeps k1).cell 0;simp at e0;cases v with
 | none=>
  go_wp2_with fail
  refine (hrk.out _ k1).mono ?_;rintro e w2 ⟨rfl,k2⟩;go_wp2_with fail
  go_ret2
  exact ⟨rfl,k1.trans k2⟩
 | some x=>
  go_wp2_with fail
  refine (hrk.out _ k1).mono ?_;rintro e w2 ⟨rfl,k2⟩;go_wp2_with fail
  go_ret2
  exact ⟨rfl,k1.trans k2⟩
end
theorem Qe {g:Sg} (h:Pp g∨g=.fin):0≤Cp g:=by
 cases g with
 | int s=>
  rcases h with h | h
  ·exact (Jr h.1 (AQ _) h.2.2).1
  ·cases h
 | _=>exact Cl 0
theorem Vd {m:Mean} (hok:DA m) {sc sc':Ba} {t:Tn} {d:Nat} {x:BN} (hs:sc.length≤4) (hn:0≤Cp t.g) (h:Gu m sc t d=.ok (x,sc')):JQ x∧sc'.length≤4:=by
 unfold Gu at h;split at h
 ·split at h
  ·rename_i p hp;split at h
   ·cases h
   ·cases h;have:=Ej hp;exact ⟨⟨by simp,by simp;omega,fun _=>by simp;omega⟩,hs⟩
  ·split at h
   ·cases h
   ·cases h;exact ⟨⟨by simp,by simp;omega,fun _=>by simp;omega⟩,by simp;omega⟩
 ·split at h
  ·cases h
  ·cases h;have:=XS hok d;exact ⟨⟨by simpa using hn,by simp;omega,fun q=>by simp at q⟩,hs⟩
theorem NC {m:Mean} (hok:DA m):∀ {ts:List Tn} {ds:List Nat} {sc sc':Ba} {xs:List BN},sc.length≤4→(∀ t∈ts,0≤Cp t.g)→ts.length=ds.length→D9 m sc ts ds=.ok (xs,sc')→xs.length=ts.length∧(∀ x∈xs,JQ x)∧sc'.length≤4
 | [],[],sc,sc',xs,hs,_,_,h=>by simp only [D9] at h;cases h;exact ⟨rfl,by simp,hs⟩
 | [],d :: ds,sc,sc',xs,hs,_,hl,h=>by simp at hl
 | t :: ts,[],sc,sc',xs,hs,_,hl,h=>by simp at hl
 | t :: ts,d :: ds,sc,sc',xs,hs,hn,hl,h=>by
  simp only [D9] at h;split at h
  ·cases h
  ·rename_i x sc1 h1;split at h
   ·cases h
   ·rename_i xs' sc2 h2;cases h;obtain ⟨a,b⟩:=Vd hok hs (hn t (by simp)) h1;obtain ⟨c,d',e⟩:=NC hok b (fun t ht=>hn t (by simp [ht])) (by simpa using hl) h2;exact ⟨by simp [c],fun y hy=>by rcases AG.1 hy with rfl | hy;exact a;exact d' y hy,e⟩
theorem PW {m:Mean} (hok:DA m) {sc sc':Ba} {a:Dx} {x:BW} (hs:sc.length≤4) (hn:∀ t∈a.terms,0≤Cp t.g) (h:FR m sc a=.ok (x,sc')):JY m x∧sc'.length≤4:=by
 unfold FR at h;split at h
 ·cases h
 ·rename_i r hr;split at h
  ·cases h
  ·rename_i hl;split at h
   ·cases h
   ·rename_i xs sc1 h1;cases h;have hl':a.terms.length=(m.cols r).length:=(by simpa using hl);obtain ⟨b,c,d⟩:=NC hok hs hn hl' h1;exact ⟨⟨Ej hr,by show xs.length=_;rw [b,hl'],c⟩,d⟩
theorem Ox {m:Mean} (hok:DA m):∀ {ls:List Dn} {k:Nat} {sc sc':Ba} {xs:List (BW×Bool)},sc.length≤4→(∀ l∈ls,∀ t∈l.atom.terms,0≤Cp t.g)→Eg m sc k ls=.ok (xs,sc')→∀ x∈xs,JY m x.1
 | [],k,sc,sc',xs,_,_,h=>by simp only [Eg] at h;cases h;simp
 | l :: ls,k,sc,sc',xs,hs,hn,h=>by
  simp only [Eg] at h;split at h
  ·cases h
  ·split at h
   ·cases h
   ·rename_i x sc1 h1;split at h
    ·cases h
    ·rename_i xs' sc2 h2;cases h;obtain ⟨a,b⟩:=PW hok hs (hn l (by simp)) h1;intro y hy;rcases AG.1 hy with rfl | hy
     ·exact a
     ·exact Ox hok b (fun l hl=>hn l (by simp [hl])) h2 y hy
def X8:CM→Prop
 | .dom _ _=>True
 | .rel _ cs=>cs≠[]
 | .clause a ls=>(∀ t∈a.terms,0≤Cp t.g)∧∀ l∈ls,∀ t∈l.atom.terms,0≤Cp t.g
theorem JY.more {m m':Mean} {a:BW} (h:JY m a) (hr:∀ (i:Nat),i<m.rels.length→m'.rels[i]?=m.rels[i]?) (hl:m.rels.length≤m'.rels.length):JY m' a:=
 ⟨A4 h.rel hl,by rw [h.len];unfold Mean.cols;rw [hr _ h.rel],h.tms⟩
theorem So {m m':Mean} {i:CM} (hm:Dt m) (hi:X8 i) (h:D0 m i=.ok m'):Dt m':=by
 have hok:=Li hm.ok h;cases i with
 | dom n z=>
  simp only [D0,addDom] at h;split at h
  ·cases h
  ·split at h
   ·cases h
   ·split at h
    ·cases h
    ·cases h;exact ⟨hok,hm.cols,fun c hc=>(hm.heads c hc).more (fun _ _=>rfl) (AQ _),fun c hc l hl=>(hm.lits c hc l hl).more (fun _ _=>rfl) (AQ _)⟩
 | rel n cs=>
  simp only [D0,addRel] at h;split at h
  ·cases h
  ·split at h
   ·cases h
   ·split at h
    ·cases h
    ·rename_i ds hds;cases h;have hlen:=(Uu (by omega) hds).2.1;have hr:∀ (i:Nat),i<m.rels.length→(m.rels++[(BB n.g,ds)])[i]?=m.rels[i]?:=fun i hi=>Az hi;refine ⟨hok,fun r hr=>?_,fun c hc=>(hm.heads c hc).more hr (by simp),fun c hc l hl=>(hm.lits c hc l hl).more hr (by simp)⟩;rcases AC.1 hr with hr | hr
     ·exact hm.cols r hr
     ·simp only [AF] at hr;subst hr;show 0<ds.length;rw [hlen];exact List.length_pos_iff.2 hi
 | clause a ls=>
  simp only [D0,addClause] at h;split at h
  ·cases h
  ·split at h
   ·cases h
   ·rename_i x sc h1;split at h
    ·cases h
    ·rename_i xs sc2 h2;cases h;obtain ⟨b,c⟩:=PW hm.ok (by simp) hi.1 h1;have d:=Ox hm.ok c hi.2 h2;refine ⟨hok,hm.cols,fun c hc=>?_,fun c hc l hl=>?_⟩
     ·rcases AC.1 hc with hc | hc
      ·exact (hm.heads c hc).more (fun _ _=>rfl) (AQ _)
      ·simp only [AF] at hc;subst hc;exact b.more (fun _ _=>rfl) (AQ _)
     ·rcases AC.1 hc with hc | hc
      ·exact (hm.lits c hc l hl).more (fun _ _=>rfl) (AQ _)
      ·simp only [AF] at hc;subst hc;exact (d l hl).more (fun _ _=>rfl) (AQ _)
theorem NH:∀ {is:List CM} {m m':Mean},Dt m→(∀ i∈is,X8 i)→Bh m is=.ok m'→Dt m'
 | [],m,m',hm,_,h=>by simp only [Bh] at h;cases h;exact hm
 | i :: is,m,m',hm,hi,h=>by
  simp only [Bh] at h;split at h
  ·cases h
  ·rename_i m1 h1;exact NH (So hm (hi i (by simp)) h1) (fun j hj=>hi j (by simp [hj])) h
theorem cJ {p:Sg→Bool} {ts us r:List Tn} (h:E4 p ts=.ok (r,us)):r≠[]:=by
 unfold E4 at h;split at h
 ·cases h
 ·split at h
  ·cases h
  ·split at h
   ·cases h
   ·cases h;simp
theorem ZH {ts us:List Tn} {n:Tn} {cs:List Tn} (h:Fx ts=.ok (.rel n cs,us)):cs≠[]:=by
 unfold Fx at h;split at h
 ·split at h
  ·cases h
  ·split at h
   ·cases h
   ·split at h
    ·cases h
    ·cases h
 ·split at h
  ·split at h
   ·cases h
   ·split at h
    ·cases h
    ·rename_i c vs hc;split at h
     ·cases h
     ·cases h;exact cJ hc
  ·split at h
   ·cases h
   ·split at h
    ·cases h
    ·cases h
theorem O2:∀ {k:Nat} {ts:List Tn} {is:List CM},DO k ts=.ok is→∀ n cs,CM.rel n cs∈is→cs≠[]
 | 0,ts,is,h,n,cs,hm=>by simp only [DO] at h;cases h;cases hm
 | k+1,ts,is,h,n,cs,hm=>by
  simp only [DO] at h;split at h
  ·cases h;cases hm
  ·split at h
   ·cases h
   ·rename_i i us hi;split at h
    ·cases h
    ·rename_i r hr;cases h;rcases AG.1 hm with e | hm
     ·subst e;exact ZH hi
     ·exact O2 hr n cs hm
theorem LM {s:ByteArray} {toks:List Tn} {m:Mean} (h:Df s=.ok (toks,m)):Dt m:=by
 obtain ⟨_,ts,l,is,h1,h2,h3,h4⟩:=Tl h;have hw:=(V0 h).2;have hin:=(UY (AQ _) (by rw [h2];exact NI h1) h3).1;refine NH ⟨DA.empty,fun r hr=>by simp at hr,fun c hc=>by simp at hc,fun c hc=>by simp at hc⟩ (fun i hi=>?_) h4;have:=hin i hi;cases i with
 | dom n z=>trivial
 | rel n cs=>exact O2 h3 n cs hi
 | clause a ls=>exact ⟨fun t ht=>Qe (hw t (this.1.2.2.1 t ht).2),fun l hl t ht=>Qe (hw t ((this.2.1 l hl).2.2.1 t ht).2)⟩
end
section
open Go.RowKit Go.Shelf
attribute [local go_sem] Oper.semAt_some
structure VG (w':World) (z eb:Nat) (m:Mean) (bb:Nat) (B:SB) (S:ST) (gr cr:Nat) (rs:List BF) (tv mv:Value) (ka:Option Addr) (ks:List CluX) (kc:Nat) (vals:List Nat) (rk:Nat→List Nat→Option Nat):Prop where
 cell:AK w' eb #[.pointer (some ⟨bb,0,none⟩)]
 low:z≤eb
 out:eb∉bb :: ftp B gr rs
 eng:FA w' z bb B S gr cr rs tv mv ka ks kc m vals (Ew m.clauses) rk
 steps:E9 rs (Ew m.clauses) ks 0 (fun _ _=>none) rs.length rk
 next:S.next≤300000000000000
 lay:M6 m.clauses m.rels.length vals
 stable:Dr layG m.clauses vals
theorem FA.low0 {w:World} {z z' bb:Nat} {B:SB} {S:ST} {gr cr:Nat} {rs:List BF} {tv mv:Value} {ka:Option Addr} {ks:List CluX} {kc:Nat} {m:Mean} {vals:List Nat} {Fs:Nat→List Nat→Prop} {rk:Nat→List Nat→Option Nat} (h:FA w z bb B S gr cr rs tv mv ka ks kc m vals Fs rk) (hz:z'≤z):FA w z' bb B S gr cr rs tv mv ka ks kc m vals Fs rk:=
 ⟨h.bse,h.all,h.kls.sub (fun j hj=>(AC.1 hj).elim (fun q=>AC.2 (.inl (by simp at q ⊢;omega))) (fun q=>AC.2 (.inr q))),h.ksc,⟨Fq h.set.row hz,h.set.rowA,h.set.map.imp id (fun ⟨r,a,b,c,d⟩=>⟨r,a,b,by omega,d⟩)⟩,fun j hj=>At hz (h.low j hj),h.len,fun i r nm cols hi hc=>by
  obtain ⟨a,b,g,c,d,e,f⟩:=h.rels i r nm cols hi hc
  exact ⟨a,b,g,c,d,At hz e,f⟩⟩
theorem FA.off {w w':World} {z bb:Nat} {B:SB} {S:ST} {gr cr:Nat} {rs:List BF} {tv mv:Value} {ka:Option Addr} {ks:List CluX} {kc:Nat} {m:Mean} {vals:List Nat} {Fs:Nat→List Nat→Prop} {rk:Nat→List Nat→Option Nat} {T:List Nat} (h:FA w z bb B S gr cr rs tv mv ka ks kc m vals Fs rk) (k:AA T w w') (h1:∀ j∈bb :: ftp B gr rs,j∉T) (h2:∀ j∈T,j<z):FA w' z bb B S gr cr rs tv mv ka ks kc m vals Fs rk:=
 ⟨h.bse.other k (h1 bb (by simp)) (h1 gr (by simp [ftp])) (fun r hr=>h1 _ (by simp only [ftp,AG,AC,AM];exact .inr (.inr (.inl ⟨r,hr,rfl⟩)))) (h.bse.eng.keeps k (fun i hi=>h1 i (AP _ (DR hi)))),h.all,h.kls.keeps k (fun j hj=>.inl (AC.2 (.inl (by simpa using h2 j hj)))),h.ksc,h.set.keeps k (fun j hj=>.inr (.inl (h2 j hj))),h.low,h.len,fun i r nm cols hi hc=>by
  obtain ⟨a,b,g,c,d,e,f⟩:=h.rels i r nm cols hi hc
  exact ⟨a,b,g,c,d,e,f.keepsE k (fun hm=>by have:=h2 g hm;omega)⟩⟩
theorem VG.keeps0 {w w':World} {z eb:Nat} {m:Mean} {bb:Nat} {B:SB} {S:ST} {gr cr:Nat} {rs:List BF} {tv mv:Value} {ka:Option Addr} {ks:List CluX} {kc:Nat} {vals:List Nat} {rk:Nat→List Nat→Option Nat} (h:VG w z eb m bb B S gr cr rs tv mv ka ks kc vals rk) (k:AA [] w w'):VG w' z eb m bb B S gr cr rs tv mv ka ks kc vals rk:=⟨h.cell.keeps k,h.low,h.out,h.eng.keeps0 k,h.steps,h.next,h.lay,h.stable⟩
def nA (w:World) (r:Except I0 (List Tn×Mean)) (e:Ending) (w':World):Prop:=match r with
 | .error f=>e=.returned (.tuple #[.pointer none,.agg #[.int .i64 f.1,.int .i64 f.2]])
 | .ok (_,m)=>∃ eb bb B S gr cr rs tv mv ka ks kc vals rk,e=.returned (.tuple #[.pointer (some ⟨eb,0,none⟩),.agg #[.int .i64 0,.int .i64 0]])∧VG w' w.heap.size eb m bb B S gr cr rs tv mv ka ks kc vals rk
theorem Mo {w:World} (s:ByteArray) (hs:s.size≤9223372036854775807) (hne:∀ toks m,Df s=.ok (toks,m)→0<m.rels.length):Calls prog 16 #[.string s] w fun e w'=>nA w (Df s) e w'∧AA [] w w':=by
 have kA:=AA.alloc [] w (.cells #[.int .i64 0,.int .i64 0] 28);have hF:=AK.new w #[.int .i64 0,.int .i64 0] 28;have hrd:=AD (Ls (w:=w.alloc (.cells #[.int .i64 0,.int .i64 0] 28)) s hs);rw [AX] at hrd;obtain ⟨fs,hfs⟩:=XM;cases hR:Df s with
 | error f=>
  rw [hR] at hrd;clear hne hR;go_in
  go_wp2_with fail
  refine hrd.out.mono ?_;rintro e w1 ⟨rfl,k1⟩;have hF1:=hF.keeps k1;have hsz:=k1.size;rw [AX] at hsz;have kB:=AA.alloc [] w1 (.cells #[.int .i64 f.1,.int .i64 f.2] 28);have hG:=AK.new w1 #[.int .i64 f.1,.int .i64 f.2] 28;obtain ⟨c0,f0,c1,f1,hat,hk⟩:=Nt (hF1.keeps kB) (.int .i64 f.1) (.int .i64 f.2);have HK:=AD (((kA.trans k1).trans kB).trans_new hk (by simp));have Hat:=AD hat;clear hrd k1 kA kB hF hF1 hat hk hG;go_wp2_with fail
  go_region_law (fail)
  all_goals
   go_wp2_with fail
   exact bodyPost_ret (N3 (t:=2) (p:=3) (ty:=28) (by kernel_rfl) _ (Hat.out.keeps (AA.drew [] _)) hfs Mg rfl) rfl ⟨rfl,HK.out.trans (AA.drew [] _)⟩
 | ok q=>
  obtain ⟨toks,m⟩:=q;rw [hR] at hrd;have hfine:=LM hR;have h0:=hne toks m hR;clear hR hne;go_in
  go_wp2_with fail
  refine hrd.out.mono ?_;rintro e w1 ⟨⟨p,vals,rv,cl,tv,rvs,kvs,rfl,hP⟩,k1⟩;have hF1:=hF.keeps k1;have hsz:=k1.size;rw [AX] at hsz;have kB:=AA.alloc [] w1 (.cells #[.int .i64 0,.int .i64 0] 28);have hG:=AK.new w1 #[.int .i64 0,.int .i64 0] 28;have hwk:=AD (fun (W:World) (k:AA [] w1 W)=>RC (hP.keeps k) hfine h0);have hF2:=AD (hF1.keeps kB);have HG:=AD hG;have HK:=AD ((kA.trans k1).trans kB);have HkB:=AD kB;have HP:=AD (Ak hP.lay hP.stable);clear hrd k1 kA kB hF hF1 hG hP hfine h0;go_wp2_with fail
  go_region_law (refine A2 rfl 37 _ _ rfl _ func37 (by kernel_rfl) (by kernel_rfl) [.pointer (some ⟨p,0,none⟩)] rfl ?_
                 refine (hwk.out _ (HkB.out.trans (AA.drew _ _))).mono ?_;rintro e w5 ⟨bb,B,S,gr,cr,rs,tv5,mv5,ka,ks,kc,rk,rfl,hE5,hs5,hn5,k5⟩;have kE:=AA.alloc [] w5 (.cells #[.pointer (some ⟨bb,0,none⟩)] 89);have q0:=(HG.out.keeps (AA.drew [] _)).keeps k5;have q1:=(hF2.out.keeps (AA.drew [] _)).keeps k5;have q2:=q0.cell 0;have q3:=q0.cell 1;have r2:=(q0.keeps kE).cell 0;have r3:=(q0.keeps kE).cell 1;have hEb:=AK.new w5 #[.pointer (some ⟨bb,0,none⟩)] 89;obtain ⟨s0,s1,s2,s3,s4,s5⟩:=Nt (q1.keeps kE) (.int .i64 0) (.int .i64 0)
                 have hlt:=ftp_lt hE5.bse)
  all_goals
   go_wp2_with fail
   have k15:=(HK.out.trans (AA.drew [] _)).trans k5;have hbig:w.heap.size+1≤w1.heap.size:=(by omega);have hz5:w1.heap.size+1≤w5.heap.size:=by have:=k5.size;rw [show ((w1.alloc (.cells #[.int .i64 0,.int .i64 0] 28)).drew).heap.size=(w1.alloc (.cells #[.int .i64 0,.int .i64 0] 28)).heap.size from rfl,AX] at this;exact this
   have hno:w.heap.size∉bb :: ftp B gr rs:=fun hm=>by have:=hE5.low _ hm;omega
   have kS:=s5.mono (T':=[w.heap.size]) (by simp);have hE6:=(hE5.keeps0 kE).off (T:=[w.heap.size]) kS (fun j hj hm=>hno (by simp only [AF] at hm;rw [←hm];exact hj)) (fun j hj=>by simp only [AF] at hj;omega);refine bodyPost_ret (N3 (t:=2) (p:=3) (ty:=28) (by kernel_rfl) _ s4 hfs Mg rfl) rfl ⟨?_,(k15.trans kE).trans_new s5 (by simp)⟩;exact ⟨w5.heap.size,bb,B,S,gr,cr,rs,tv5,mv5,ka,ks,kc,vals,rk,rfl,⟨hEb.keeps s5 (by simp;omega),k15.size,fun hm=>by have:=hlt _ hm;omega,hE6.low0 (by omega),hs5,hn5,HP.out.1,HP.out.2⟩⟩
end
end Go.Proofs.YtgjomknpjigkhaaGreatDoor
