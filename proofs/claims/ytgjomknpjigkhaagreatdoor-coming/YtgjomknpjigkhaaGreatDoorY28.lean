import Derived.Test.YtgjomknpjigkhaaGreatDoorY26
import Derived.Test.YtgjomknpjigkhaaGreatDoorY27
namespace Go.Proofs.YtgjomknpjigkhaaGreatDoor
open Go.Proofs.Tryz
set_option maxRecDepth 100000
set_option maxHeartbeats 4000000
section
open Go.RowKit
section
variable {w:World} {z eb bb:Nat} {B:SB} {S:ST} {gr cr:Nat} {rs:List A9} {tv mv:Value} {ka:Option Addr} {ks:List CluX} {kc:Nat} {m:Mean} {vals:List Nat} {Fs:Nat→List Nat→Prop} {rk:Nat→List Nat→Option Nat}
theorem JN (h:EM w z bb B S gr cr rs tv mv ka ks kc m vals Fs rk) (hok:DF m) (he:AM w eb #[.pointer (some ⟨bb,0,none⟩)]) {s:ByteArray} {i:Nat} (hs:Dc (m.rels.map Prod.fst) s=some i) {g cap:Nat} {l:List Nat} (hrow:Bt w g (J2 l)) (ht:Nv m i l) :
  Calls prog 29 #[.pointer (some ⟨eb,0,none⟩),.string s,.slice (some ⟨g,0,none⟩) l.length cap] w fun e w'=>e=.returned (.tuple #[.int .i64 (((rk i l).getD 0:Nat):Int),.int .i64 (if (rk i l).isSome then 0 else 14)])∧AA [] w w':=by
 obtain ⟨r,hr,hal⟩:∃ r,rs[i]?=some r∧l∈C7 r.n:=by
  obtain ⟨r,gs,ss,hr,_,_,_,_,_,hal⟩:=h.tup hok ht;exact ⟨r,hr,hal⟩
 have hpl:=AD (Ig (cap:=cap) h hok he hs hrow ht);have hrk:=AD (fun (W:World) (k:AA [] w W)=>Y0 (cap:=cap) (h.bse.keeps0 k) h.all hr (hrow.keepsE k) hal);generalize rk i l=v at hrk ⊢;clear hs h hok ht hrow hal hr;go_in
 go_wp2_with fail
 refine hpl.out.mono ?_;rintro e w1 ⟨rfl,k1⟩;have e0:=(he.keeps k1).cell 0;simp at e0;cases v with
 | none=>
  go_wp2_with fail
  refine (hrk.out _ k1).mono ?_;rintro e w2 ⟨rfl,k2⟩;go_wp2_with fail
  go_ret2
  exact ⟨rfl,k1.trans k2⟩
 | some x=>
  go_wp2_with fail
  refine (hrk.out _ k1).mono ?_;rintro e w2 ⟨rfl,k2⟩;go_wp2_with fail
  go_ret2
  exact ⟨rfl,k1.trans k2⟩
end
theorem Qx {g:Sg} (h:QD g∨g=.fin):0≤C6 g:=by
 cases g with
 | int s=>
  rcases h with h | h
  ·exact (J8 h.1 (AS _) h.2.2).1
  ·cases h
 | _=>exact Co 0
theorem Vn {m:Mean} (hok:DF m) {sc sc':Bk} {t:Tn} {d:Nat} {x:BR} (hs:sc.length≤4) (hn:0≤C6 t.g) (h:II m sc t d=.ok (x,sc')):Jd x∧sc'.length≤4:=by
 unfold II at h;split at h
 ·split at h
  ·rename_i p hp;split at h
   ·cases h
   ·cases h;have:=Es hp;exact ⟨⟨by simp,by simp;omega,fun _=>by simp;omega⟩,hs⟩
  ·split at h
   ·cases h
   ·cases h;exact ⟨⟨by simp,by simp;omega,fun _=>by simp;omega⟩,by simp;omega⟩
 ·split at h
  ·cases h
  ·cases h;have:=Xj hok d;exact ⟨⟨by simpa using hn,by simp;omega,fun q=>by simp at q⟩,hs⟩
theorem NO {m:Mean} (hok:DF m):∀ {ts:List Tn} {ds:List Nat} {sc sc':Bk} {xs:List BR},sc.length≤4→(∀ t∈ts,0≤C6 t.g)→ts.length=ds.length→EJ m sc ts ds=.ok (xs,sc')→xs.length=ts.length∧(∀ x∈xs,Jd x)∧sc'.length≤4
 | [],[],sc,sc',xs,hs,_,_,h=>by simp only [EJ] at h;cases h;exact ⟨rfl,by simp,hs⟩
 | [],d :: ds,sc,sc',xs,hs,_,hl,h=>by simp at hl
 | t :: ts,[],sc,sc',xs,hs,_,hl,h=>by simp at hl
 | t :: ts,d :: ds,sc,sc',xs,hs,hn,hl,h=>by
  simp only [EJ] at h;split at h
  ·cases h
  ·rename_i x sc1 h1;split at h
   ·cases h
   ·rename_i xs' sc2 h2;cases h;obtain ⟨a,b⟩:=Vn hok hs (hn t (by simp)) h1;obtain ⟨c,d',e⟩:=NO hok b (fun t ht=>hn t (by simp [ht])) (by simpa using hl) h2;exact ⟨by simp [c],fun y hy=>by rcases AJ.1 hy with rfl | hy;exact a;exact d' y hy,e⟩
theorem Pp {m:Mean} (hok:DF m) {sc sc':Bk} {a:Dz} {x:Bh} (hs:sc.length≤4) (hn:∀ t∈a.terms,0≤C6 t.g) (h:Ge m sc a=.ok (x,sc')):Ip m x∧sc'.length≤4:=by
 unfold Ge at h;split at h
 ·cases h
 ·rename_i r hr;split at h
  ·cases h
  ·rename_i hl;split at h
   ·cases h
   ·rename_i xs sc1 h1;cases h;have hl':a.terms.length=(m.cols r).length:=(by simpa using hl);obtain ⟨b,c,d⟩:=NO hok hs hn hl' h1;exact ⟨⟨Es hr,by show xs.length=_;rw [b,hl'],c⟩,d⟩
theorem O6 {m:Mean} (hok:DF m):∀ {ls:List Dp} {k:Nat} {sc sc':Bk} {xs:List (Bh×Bool)},sc.length≤4→(∀ l∈ls,∀ t∈l.atom.terms,0≤C6 t.g)→E3 m sc k ls=.ok (xs,sc')→∀ x∈xs,Ip m x.1
 | [],k,sc,sc',xs,_,_,h=>by simp only [E3] at h;cases h;simp
 | l :: ls,k,sc,sc',xs,hs,hn,h=>by
  simp only [E3] at h;split at h
  ·cases h
  ·split at h
   ·cases h
   ·rename_i x sc1 h1;split at h
    ·cases h
    ·rename_i xs' sc2 h2;cases h;obtain ⟨a,b⟩:=Pp hok hs (hn l (by simp)) h1;intro y hy;rcases AJ.1 hy with rfl | hy
     ·exact a
     ·exact O6 hok b (fun l hl=>hn l (by simp [hl])) h2 y hy
def YL:CO→Prop
 | .dom _ _=>True
 | .rel _ cs=>cs≠[]
 | .clause a ls=>(∀ t∈a.terms,0≤C6 t.g)∧∀ l∈ls,∀ t∈l.atom.terms,0≤C6 t.g
theorem Ip.more {m m':Mean} {a:Bh} (h:Ip m a) (hr:∀ (i:Nat),i<m.rels.length→m'.rels[i]?=m.rels[i]?) (hl:m.rels.length≤m'.rels.length):Ip m' a:=
 ⟨A8 h.rel hl,by rw [h.len];unfold Mean.cols;rw [hr _ h.rel],h.tms⟩
theorem TJ {m m':Mean} {i:CO} (hm:DI m) (hi:YL i) (h:EB m i=.ok m'):DI m':=by
 have hok:=Lv hm.ok h;cases i with
 | dom n z=>
  simp only [EB,addDom] at h;split at h
  ·cases h
  ·split at h
   ·cases h
   ·split at h
    ·cases h
    ·cases h;exact ⟨hok,hm.cols,fun c hc=>(hm.heads c hc).more (fun _ _=>rfl) (AS _),fun c hc l hl=>(hm.lits c hc l hl).more (fun _ _=>rfl) (AS _)⟩
 | rel n cs=>
  simp only [EB,addRel] at h;split at h
  ·cases h
  ·split at h
   ·cases h
   ·split at h
    ·cases h
    ·rename_i ds hds;cases h;have hlen:=(VE (by omega) hds).2.1;have hr:∀ (i:Nat),i<m.rels.length→(m.rels++[(BF n.g,ds)])[i]?=m.rels[i]?:=fun i hi=>At hi;refine ⟨hok,fun r hr=>?_,fun c hc=>(hm.heads c hc).more hr (by simp),fun c hc l hl=>(hm.lits c hc l hl).more hr (by simp)⟩;rcases AC.1 hr with hr | hr
     ·exact hm.cols r hr
     ·simp only [AG] at hr;subst hr;show 0<ds.length;rw [hlen];exact List.length_pos_iff.2 hi
 | clause a ls=>
  simp only [EB,addClause] at h;split at h
  ·cases h
  ·split at h
   ·cases h
   ·rename_i x sc h1;split at h
    ·cases h
    ·rename_i xs sc2 h2;cases h;obtain ⟨b,c⟩:=Pp hm.ok (by simp) hi.1 h1;have d:=O6 hm.ok c hi.2 h2;refine ⟨hok,hm.cols,fun c hc=>?_,fun c hc l hl=>?_⟩
     ·rcases AC.1 hc with hc | hc
      ·exact (hm.heads c hc).more (fun _ _=>rfl) (AS _)
      ·simp only [AG] at hc;subst hc;exact b.more (fun _ _=>rfl) (AS _)
     ·rcases AC.1 hc with hc | hc
      ·exact (hm.lits c hc l hl).more (fun _ _=>rfl) (AS _)
      ·simp only [AG] at hc;subst hc;exact (d l hl).more (fun _ _=>rfl) (AS _)
theorem NW:∀ {is:List CO} {m m':Mean},DI m→(∀ i∈is,YL i)→CN m is=.ok m'→DI m'
 | [],m,m',hm,_,h=>by simp only [CN] at h;cases h;exact hm
 | i :: is,m,m',hm,hi,h=>by
  simp only [CN] at h;split at h
  ·cases h
  ·rename_i m1 h1;exact NW (TJ hm (hi i (by simp)) h1) (fun j hj=>hi j (by simp [hj])) h
theorem cX {p:Sg→Bool} {ts us r:List Tn} (h:FD p ts=.ok (r,us)):r≠[]:=by
 unfold FD at h;split at h
 ·cases h
 ·split at h
  ·cases h
  ·split at h
   ·cases h
   ·cases h;simp
theorem ZT {ts us:List Tn} {n:Tn} {cs:List Tn} (h:GC ts=.ok (.rel n cs,us)):cs≠[]:=by
 unfold GC at h;split at h
 ·split at h
  ·cases h
  ·split at h
   ·cases h
   ·split at h
    ·cases h
    ·cases h
 ·split at h
  ·split at h
   ·cases h
   ·split at h
    ·cases h
    ·rename_i c vs hc;split at h
     ·cases h
     ·cases h;exact cX hc
  ·split at h
   ·cases h
   ·split at h
    ·cases h
    ·cases h
theorem PC:∀ {k:Nat} {ts:List Tn} {is:List CO},Dd k ts=.ok is→∀ n cs,CO.rel n cs∈is→cs≠[]
 | 0,ts,is,h,n,cs,hm=>by simp only [Dd] at h;cases h;cases hm
 | k+1,ts,is,h,n,cs,hm=>by
  simp only [Dd] at h;split at h
  ·cases h;cases hm
  ·split at h
   ·cases h
   ·rename_i i us hi;split at h
    ·cases h
    ·rename_i r hr;cases h;rcases AJ.1 hm with e | hm
     ·subst e;exact ZT hi
     ·exact PC hr n cs hm
theorem Lf {s:ByteArray} {toks:List Tn} {m:Mean} (h:EE s=.ok (toks,m)):DI m:=by
 obtain ⟨_,ts,l,is,h1,h2,h3,h4⟩:=T9 h;have hw:=(V8 h).2;have hin:=(Uq (AS _) (by rw [h2];exact NX h1) h3).1;refine NW ⟨DF.empty,fun r hr=>by simp at hr,fun c hc=>by simp at hc,fun c hc=>by simp at hc⟩ (fun i hi=>?_) h4;have:=hin i hi;cases i with
 | dom n z=>trivial
 | rel n cs=>exact PC h3 n cs hi
 | clause a ls=>exact ⟨fun t ht=>Qx (hw t (this.1.2.2.1 t ht).2),fun l hl t ht=>Qx (hw t ((this.2.1 l hl).2.2.1 t ht).2)⟩
end
section
open Go.RowKit Go.Shelf
attribute [local go_sem] Oper.semAt_some
structure VX (w':World) (z eb:Nat) (m:Mean) (bb:Nat) (B:SB) (S:ST) (gr cr:Nat) (rs:List A9) (tv mv:Value) (ka:Option Addr) (ks:List CluX) (kc:Nat) (vals:List Nat) (rk:Nat→List Nat→Option Nat):Prop where
 cell:AM w' eb #[.pointer (some ⟨bb,0,none⟩)]
 low:z≤eb
 out:eb∉bb :: ftp B gr rs
 eng:EM w' z bb B S gr cr rs tv mv ka ks kc m vals (E6 m.clauses) rk
 steps:EL rs (E6 m.clauses) ks 0 (fun _ _=>none) rs.length rk
 next:S.next≤300000000000000
 lay:L0 m.clauses m.rels.length vals
 stable:DT layG m.clauses vals
theorem EM.low0 {w:World} {z z' bb:Nat} {B:SB} {S:ST} {gr cr:Nat} {rs:List A9} {tv mv:Value} {ka:Option Addr} {ks:List CluX} {kc:Nat} {m:Mean} {vals:List Nat} {Fs:Nat→List Nat→Prop} {rk:Nat→List Nat→Option Nat} (h:EM w z bb B S gr cr rs tv mv ka ks kc m vals Fs rk) (hz:z'≤z):EM w z' bb B S gr cr rs tv mv ka ks kc m vals Fs rk:=
 ⟨h.bse,h.all,h.kls.sub (fun j hj=>(AC.1 hj).elim (fun q=>AC.2 (.inl (by simp at q ⊢;omega))) (fun q=>AC.2 (.inr q))),h.ksc,⟨EW h.set.row hz,h.set.rowA,h.set.map.imp id (fun ⟨r,a,b,c,d⟩=>⟨r,a,b,by omega,d⟩)⟩,fun j hj=>Ai hz (h.low j hj),h.len,fun i r nm cols hi hc=>by
  obtain ⟨a,b,g,c,d,e,f⟩:=h.rels i r nm cols hi hc
  exact ⟨a,b,g,c,d,Ai hz e,f⟩⟩
theorem EM.off {w w':World} {z bb:Nat} {B:SB} {S:ST} {gr cr:Nat} {rs:List A9} {tv mv:Value} {ka:Option Addr} {ks:List CluX} {kc:Nat} {m:Mean} {vals:List Nat} {Fs:Nat→List Nat→Prop} {rk:Nat→List Nat→Option Nat} {T:List Nat} (h:EM w z bb B S gr cr rs tv mv ka ks kc m vals Fs rk) (k:AA T w w') (h1:∀ j∈bb :: ftp B gr rs,j∉T) (h2:∀ j∈T,j<z):EM w' z bb B S gr cr rs tv mv ka ks kc m vals Fs rk:=
 ⟨h.bse.other k (h1 bb (by simp)) (h1 gr (by simp [ftp])) (fun r hr=>h1 _ (by simp only [ftp,AJ,AC,AR];exact .inr (.inr (.inl ⟨r,hr,rfl⟩)))) (h.bse.eng.keeps k (fun i hi=>h1 i (AO _ (Ck hi)))),h.all,h.kls.keeps k (fun j hj=>.inl (AC.2 (.inl (by simpa using h2 j hj)))),h.ksc,h.set.keeps k (fun j hj=>.inr (.inl (h2 j hj))),h.low,h.len,fun i r nm cols hi hc=>by
  obtain ⟨a,b,g,c,d,e,f⟩:=h.rels i r nm cols hi hc
  exact ⟨a,b,g,c,d,e,f.keepsE k (fun hm=>by have:=h2 g hm;omega)⟩⟩
theorem VX.keeps0 {w w':World} {z eb:Nat} {m:Mean} {bb:Nat} {B:SB} {S:ST} {gr cr:Nat} {rs:List A9} {tv mv:Value} {ka:Option Addr} {ks:List CluX} {kc:Nat} {vals:List Nat} {rk:Nat→List Nat→Option Nat} (h:VX w z eb m bb B S gr cr rs tv mv ka ks kc vals rk) (k:AA [] w w'):VX w' z eb m bb B S gr cr rs tv mv ka ks kc vals rk:=⟨h.cell.keeps k,h.low,h.out,h.eng.keeps0 k,h.steps,h.next,h.lay,h.stable⟩
def nM (w:World) (r:Except J5 (List Tn×Mean)) (e:Ending) (w':World):Prop:=match r with
 | .error f=>e=.returned (.tuple #[.pointer none,.agg #[.int .i64 f.1,.int .i64 f.2]])
 | .ok (_,m)=>∃ eb bb B S gr cr rs tv mv ka ks kc vals rk,e=.returned (.tuple #[.pointer (some ⟨eb,0,none⟩),.agg #[.int .i64 0,.int .i64 0]])∧VX w' w.heap.size eb m bb B S gr cr rs tv mv ka ks kc vals rk
theorem Mx {w:World} (s:ByteArray) (hs:s.size≤9223372036854775807) (hne:∀ toks m,EE s=.ok (toks,m)→0<m.rels.length):Calls prog 16 #[.string s] w fun e w'=>nM w (EE s) e w'∧AA [] w w':=by
 have kA:=AA.alloc [] w (.cells #[.int .i64 0,.int .i64 0] 28);have hF:=AM.new w #[.int .i64 0,.int .i64 0] 28;have hrd:=AD (L6 (w:=w.alloc (.cells #[.int .i64 0,.int .i64 0] 28)) s hs);rw [AY] at hrd;obtain ⟨fs,hfs⟩:=Xd;cases hR:EE s with
 | error f=>
  rw [hR] at hrd;clear hne hR;go_in
  go_wp2_with fail
  refine hrd.out.mono ?_;rintro e w1 ⟨rfl,k1⟩;have hF1:=hF.keeps k1;have hsz:=k1.size;rw [AY] at hsz;have kB:=AA.alloc [] w1 (.cells #[.int .i64 f.1,.int .i64 f.2] 28);have hG:=AM.new w1 #[.int .i64 f.1,.int .i64 f.2] 28;obtain ⟨c0,f0,c1,f1,hat,hk⟩:=N2 (hF1.keeps kB) (.int .i64 f.1) (.int .i64 f.2);have HK:=AD (((kA.trans k1).trans kB).trans_new hk (by simp));have Hat:=AD hat;clear hrd k1 kA kB hF hF1 hat hk hG;go_wp2_with fail
  go_region_law (fail)
  all_goals
   go_wp2_with fail
   exact bodyPost_ret (OB (t:=2) (p:=3) (ty:=28) (by kernel_rfl) _ (Hat.out.keeps (AA.drew [] _)) hfs Mp rfl) rfl ⟨rfl,HK.out.trans (AA.drew [] _)⟩
 | ok q=>
  obtain ⟨toks,m⟩:=q;rw [hR] at hrd;have hfine:=Lf hR;have h0:=hne toks m hR;clear hR hne;go_in
  go_wp2_with fail
  refine hrd.out.mono ?_;rintro e w1 ⟨⟨p,vals,rv,cl,tv,rvs,kvs,rfl,hP⟩,k1⟩;have hF1:=hF.keeps k1;have hsz:=k1.size;rw [AY] at hsz;have kB:=AA.alloc [] w1 (.cells #[.int .i64 0,.int .i64 0] 28);have hG:=AM.new w1 #[.int .i64 0,.int .i64 0] 28;have hwk:=AD (fun (W:World) (k:AA [] w1 W)=>RW (hP.keeps k) hfine h0);have hF2:=AD (hF1.keeps kB);have HG:=AD hG;have HK:=AD ((kA.trans k1).trans kB);have HkB:=AD kB;have HP:=AD (AU hP.lay hP.stable);clear hrd k1 kA kB hF hF1 hG hP hfine h0;go_wp2_with fail
  go_region_law (refine Az rfl 37 _ _ rfl _ func37 (by kernel_rfl) (by kernel_rfl) [.pointer (some ⟨p,0,none⟩)] rfl ?_
                 refine (hwk.out _ (HkB.out.trans (AA.drew _ _))).mono ?_;rintro e w5 ⟨bb,B,S,gr,cr,rs,tv5,mv5,ka,ks,kc,rk,rfl,hE5,hs5,hn5,k5⟩;have kE:=AA.alloc [] w5 (.cells #[.pointer (some ⟨bb,0,none⟩)] 89);have q0:=(HG.out.keeps (AA.drew [] _)).keeps k5;have q1:=(hF2.out.keeps (AA.drew [] _)).keeps k5;have q2:=q0.cell 0;have q3:=q0.cell 1;have r2:=(q0.keeps kE).cell 0;have r3:=(q0.keeps kE).cell 1;have hEb:=AM.new w5 #[.pointer (some ⟨bb,0,none⟩)] 89;obtain ⟨s0,s1,s2,s3,s4,s5⟩:=N2 (q1.keeps kE) (.int .i64 0) (.int .i64 0)
                 have hlt:=ftp_lt hE5.bse)
  all_goals
   go_wp2_with fail
   have k15:=(HK.out.trans (AA.drew [] _)).trans k5;have hbig:w.heap.size+1≤w1.heap.size:=(by omega);have hz5:w1.heap.size+1≤w5.heap.size:=by have:=k5.size;rw [show ((w1.alloc (.cells #[.int .i64 0,.int .i64 0] 28)).drew).heap.size=(w1.alloc (.cells #[.int .i64 0,.int .i64 0] 28)).heap.size from rfl,AY] at this;exact this
   have hno:w.heap.size∉bb :: ftp B gr rs:=fun hm=>by have:=hE5.low _ hm;omega
   have kS:=s5.mono (T':=[w.heap.size]) (by simp);have hE6:=(hE5.keeps0 kE).off (T:=[w.heap.size]) kS (fun j hj hm=>hno (by simp only [AG] at hm;rw [←hm];exact hj)) (fun j hj=>by simp only [AG] at hj;omega);refine bodyPost_ret (OB (t:=2) (p:=3) (ty:=28) (by kernel_rfl) _ s4 hfs Mp rfl) rfl ⟨?_,(k15.trans kE).trans_new s5 (by simp)⟩;exact ⟨w5.heap.size,bb,B,S,gr,cr,rs,tv5,mv5,ka,ks,kc,vals,rk,rfl,⟨hEb.keeps s5 (by simp;omega),k15.size,fun hm=>by have:=hlt _ hm;omega,hE6.low0 (by omega),hs5,hn5,HP.out.1,HP.out.2⟩⟩
end
end Go.Proofs.YtgjomknpjigkhaaGreatDoor
