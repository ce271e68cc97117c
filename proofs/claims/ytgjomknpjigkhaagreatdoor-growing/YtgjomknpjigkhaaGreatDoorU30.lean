import Derived.Test.YtgjomknpjigkhaaGreatDoorU28
import Derived.Test.YtgjomknpjigkhaaGreatDoorU29
namespace Go.Proofs.YtgjomknpjigkhaaGreatDoor
open Go.Proofs.Tryz
set_option maxRecDepth 100000
set_option maxHeartbeats 4000000
section
open Go.RowKit
section
variable {w:World} {z eb bb:Nat} {B:SB} {S:ST} {gr cr:Nat} {rs:List RelX} {tv mv:Value} {ka:Option Addr} {ks:List CluX} {kc:Nat} {m:Mean} {vals:List Nat} {Fs:Nat→List Nat→Prop} {rk:Nat→List Nat→Option Nat}
theorem mQH (h:tQF w z bb B S gr cr rs tv mv ka ks kc m vals Fs rk) (hok:mQC m) (he:cQA w eb #[.pointer (some ⟨bb,0,none⟩)]) {s:ByteArray} {i:Nat} (hs:bQD (m.rels.map Prod.fst) s=some i) {g cap:Nat} {l:List Nat} (hrow:lQB w g (dgs l)) (ht:TupOk m i l) :
  Calls prog 29 #[.pointer (some ⟨eb,0,none⟩),.string s,.slice (some ⟨g,0,none⟩) l.length cap] w fun e w'=>e=.returned (.tuple #[.int .i64 (((rk i l).getD 0:Nat):Int),.int .i64 (if (rk i l).isSome then 0 else 14)])∧aQA [] w w':=by
 obtain ⟨r,hr,hal⟩:∃ r,rs[i]?=some r∧l∈alls r.n:=by
  obtain ⟨r,gs,ss,hr,_,_,_,_,_,hal⟩:=h.tup hok ht;exact ⟨r,hr,hal⟩
 have hpl:=hide (place46_calls (cap:=cap) h hok he hs hrow ht);have hrk:=hide (fun (W:World) (k:aQA [] w W)=>rank_says (cap:=cap) (h.bse.keeps0 k) h.all hr (hrow.keepsE k (by simp)) hal);generalize rk i l=v at hrk ⊢;clear hs h hok ht hrow hal hr;go_enter func29,ntmps29
 go_wp2_with fail
 refine hpl.out.mono ?_;rintro e w1 ⟨rfl,k1⟩;have e0:=(he.keeps k1 (by simp)).cell 0;simp at e0;cases v with
 | none=>
  go_wp2_with fail
  refine (hrk.out _ k1).mono ?_;rintro e w2 ⟨rfl,k2⟩;go_wp2_with fail
  go_ret2
  exact ⟨rfl,k1.trans k2⟩
 | some x=>
  go_wp2_with fail
  refine (hrk.out _ k1).mono ?_;rintro e w2 ⟨rfl,k2⟩;go_wp2_with fail
  go_ret2
  exact ⟨rfl,k1.trans k2⟩
end
end
section
open Go.RowKit
theorem numOf_pos {g:Sg} (h:WfG g∨g=.fin):0≤yQC g:=by
 cases g with
 | int s=>
  rcases h with h | h
  ·exact (fQL h.1 (Nat.le_refl _) h.2.2).1
  ·cases h
 | _=>exact Int.le_refl 0
theorem termS_fine {m:Mean} (hok:mQC m) {sc sc':aQB} {t:Tn} {d:Nat} {x:uQA} (hs:sc.length≤4) (hn:0≤yQC t.g) (h:termS m sc t d=.ok (x,sc')):TmOk x∧sc'.length≤4:=by
 unfold termS at h;split at h
 ·split at h
  ·rename_i p hp;split at h
   ·cases h
   ·cases h;have:=gQE hp;exact ⟨⟨by simp,by simp;omega,fun _=>by simp;omega⟩,hs⟩
  ·split at h
   ·cases h
   ·cases h;exact ⟨⟨by simp,by simp;omega,fun _=>by simp;omega⟩,by simp;omega⟩
 ·split at h
  ·cases h
  ·cases h;have:=size_le hok d;exact ⟨⟨by simpa using hn,by simp;omega,fun q=>by simp at q⟩,hs⟩
theorem termsS_fine {m:Mean} (hok:mQC m):∀ {ts:List Tn} {ds:List Nat} {sc sc':aQB} {xs:List uQA},sc.length≤4→(∀ t∈ts,0≤yQC t.g)→ts.length=ds.length→kQE m sc ts ds=.ok (xs,sc')→xs.length=ts.length∧(∀ x∈xs,TmOk x)∧sc'.length≤4
 | [],[],sc,sc',xs,hs,_,_,h=>by simp only [kQE] at h;cases h;exact ⟨rfl,by simp,hs⟩
 | [],d :: ds,sc,sc',xs,hs,_,hl,h=>by simp at hl
 | t :: ts,[],sc,sc',xs,hs,_,hl,h=>by simp at hl
 | t :: ts,d :: ds,sc,sc',xs,hs,hn,hl,h=>by
  simp only [kQE] at h;split at h
  ·cases h
  ·rename_i x sc1 h1;split at h
   ·cases h
   ·rename_i xs' sc2 h2;cases h;obtain ⟨a,b⟩:=termS_fine hok hs (hn t (by simp)) h1;obtain ⟨c,d',e⟩:=termsS_fine hok b (fun t ht=>hn t (by simp [ht])) (by simpa using hl) h2;exact ⟨by simp [c],fun y hy=>by rcases List.mem_cons.1 hy with rfl | hy;exact a;exact d' y hy,e⟩
theorem atomS_fine {m:Mean} (hok:mQC m) {sc sc':aQB} {a:dQE} {x:yQA} (hs:sc.length≤4) (hn:∀ t∈a.terms,0≤yQC t.g) (h:wQL m sc a=.ok (x,sc')):dQL m x∧sc'.length≤4:=by
 unfold wQL at h;split at h
 ·cases h
 ·rename_i r hr;split at h
  ·cases h
  ·rename_i hl;split at h
   ·cases h
   ·rename_i xs sc1 h1;cases h;have hl':a.terms.length=(m.cols r).length:=(by simpa using hl);obtain ⟨b,c,d⟩:=termsS_fine hok hs hn hl' h1;exact ⟨⟨gQE hr,by show xs.length=_;rw [b,hl'],c⟩,d⟩
theorem litsS_fine {m:Mean} (hok:mQC m):∀ {ls:List LitI} {k:Nat} {sc sc':aQB} {xs:List (yQA×Bool)},sc.length≤4→(∀ l∈ls,∀ t∈l.atom.terms,0≤yQC t.g)→eQG m sc k ls=.ok (xs,sc')→∀ x∈xs,dQL m x.1
 | [],k,sc,sc',xs,_,_,h=>by simp only [eQG] at h;cases h;simp
 | l :: ls,k,sc,sc',xs,hs,hn,h=>by
  simp only [eQG] at h;split at h
  ·cases h
  ·split at h
   ·cases h
   ·rename_i x sc1 h1;split at h
    ·cases h
    ·rename_i xs' sc2 h2;cases h;obtain ⟨a,b⟩:=atomS_fine hok hs (hn l (by simp)) h1;intro y hy;rcases List.mem_cons.1 hy with rfl | hy
     ·exact a
     ·exact litsS_fine hok b (fun l hl=>hn l (by simp [hl])) h2 y hy
def ItemNum:vQB→Prop
 | .dom _ _=>True
 | .rel _ cs=>cs≠[]
 | .clause a ls=>(∀ t∈a.terms,0≤yQC t.g)∧∀ l∈ls,∀ t∈l.atom.terms,0≤yQC t.g
theorem dQL.more {m m':Mean} {a:yQA} (h:dQL m a) (hr:∀ (i:Nat),i<m.rels.length→m'.rels[i]?=m.rels[i]?) (hl:m.rels.length≤m'.rels.length):dQL m' a:=
 ⟨Nat.lt_of_lt_of_le h.rel hl,by rw [h.len];unfold Mean.cols;rw [hr _ h.rel],h.tms⟩
theorem addItem_fine {m m':Mean} {i:vQB} (hm:oQD m) (hi:ItemNum i) (h:nQD m i=.ok m'):oQD m':=by
 have hok:=addItem_ok hm.ok h;cases i with
 | dom n z=>
  simp only [nQD,addDom] at h;split at h
  ·cases h
  ·split at h
   ·cases h
   ·split at h
    ·cases h
    ·cases h;exact ⟨hok,hm.cols,fun c hc=>(hm.heads c hc).more (fun _ _=>rfl) (Nat.le_refl _),fun c hc l hl=>(hm.lits c hc l hl).more (fun _ _=>rfl) (Nat.le_refl _)⟩
 | rel n cs=>
  simp only [nQD,addRel] at h;split at h
  ·cases h
  ·split at h
   ·cases h
   ·split at h
    ·cases h
    ·rename_i ds hds;cases h;have hlen:=(colsS_ok (by omega) hds).2.1;have hr:∀ (i:Nat),i<m.rels.length→(m.rels++[(txt n.g,ds)])[i]?=m.rels[i]?:=fun i hi=>List.getElem?_append_left hi;refine ⟨hok,fun r hr=>?_,fun c hc=>(hm.heads c hc).more hr (by simp),fun c hc l hl=>(hm.lits c hc l hl).more hr (by simp)⟩;rcases List.mem_append.1 hr with hr | hr
     ·exact hm.cols r hr
     ·simp only [List.mem_singleton] at hr;subst hr;show 0<ds.length;rw [hlen];exact List.length_pos_iff.2 hi
 | clause a ls=>
  simp only [nQD,addClause] at h;split at h
  ·cases h
  ·split at h
   ·cases h
   ·rename_i x sc h1;split at h
    ·cases h
    ·rename_i xs sc2 h2;cases h;obtain ⟨b,c⟩:=atomS_fine hm.ok (by simp) hi.1 h1;have d:=litsS_fine hm.ok c hi.2 h2;refine ⟨hok,hm.cols,fun c hc=>?_,fun c hc l hl=>?_⟩
     ·rcases List.mem_append.1 hc with hc | hc
      ·exact (hm.heads c hc).more (fun _ _=>rfl) (Nat.le_refl _)
      ·simp only [List.mem_singleton] at hc;subst hc;exact b.more (fun _ _=>rfl) (Nat.le_refl _)
     ·rcases List.mem_append.1 hc with hc | hc
      ·exact (hm.lits c hc l hl).more (fun _ _=>rfl) (Nat.le_refl _)
      ·simp only [List.mem_singleton] at hc;subst hc;exact (d l hl).more (fun _ _=>rfl) (Nat.le_refl _)
theorem senseS_fine:∀ {is:List vQB} {m m':Mean},oQD m→(∀ i∈is,ItemNum i)→xQB m is=.ok m'→oQD m'
 | [],m,m',hm,_,h=>by simp only [xQB] at h;cases h;exact hm
 | i :: is,m,m',hm,hi,h=>by
  simp only [xQB] at h;split at h
  ·cases h
  ·rename_i m1 h1;exact senseS_fine (addItem_fine hm (hi i (by simp)) h1) (fun j hj=>hi j (by simp [hj])) h
theorem listG_ne {p:Sg→Bool} {ts us r:List Tn} (h:aQH p ts=.ok (r,us)):r≠[]:=by
 unfold aQH at h;split at h
 ·cases h
 ·split at h
  ·cases h
  ·split at h
   ·cases h
   ·cases h;simp
theorem itemG_rel {ts us:List Tn} {n:Tn} {cs:List Tn} (h:sQI ts=.ok (.rel n cs,us)):cs≠[]:=by
 unfold sQI at h;split at h
 ·split at h
  ·cases h
  ·split at h
   ·cases h
   ·split at h
    ·cases h
    ·cases h
 ·split at h
  ·split at h
   ·cases h
   ·split at h
    ·cases h
    ·rename_i c vs hc;split at h
     ·cases h
     ·cases h;exact listG_ne hc
  ·split at h
   ·cases h
   ·split at h
    ·cases h
    ·cases h
theorem itemsG_rel:∀ {k:Nat} {ts:List Tn} {is:List vQB},zQC k ts=.ok is→∀ n cs,vQB.rel n cs∈is→cs≠[]
 | 0,ts,is,h,n,cs,hm=>by simp only [zQC] at h;cases h;cases hm
 | k+1,ts,is,h,n,cs,hm=>by
  simp only [zQC] at h;split at h
  ·cases h;cases hm
  ·split at h
   ·cases h
   ·rename_i i us hi;split at h
    ·cases h
    ·rename_i r hr;cases h;rcases List.mem_cons.1 hm with e | hm
     ·subst e;exact itemG_rel hi
     ·exact itemsG_rel hr n cs hm
theorem readS_fine {s:ByteArray} {toks:List Tn} {m:Mean} (h:pQE s=.ok (toks,m)):oQD m:=by
 obtain ⟨_,ts,l,is,h1,h2,h3,h4⟩:=readS_ok h;have hw:=(readS_toks h).2;have hin:=(items_in (Nat.le_refl _) (by rw [h2];exact scanT_ended h1) h3).1;refine senseS_fine ⟨mQC.empty,fun r hr=>by simp at hr,fun c hc=>by simp at hc,fun c hc=>by simp at hc⟩ (fun i hi=>?_) h4;have:=hin i hi;cases i with
 | dom n z=>trivial
 | rel n cs=>exact itemsG_rel h3 n cs hi
 | clause a ls=>exact ⟨fun t ht=>numOf_pos (hw t (this.1.2.2.1 t ht).2),fun l hl t ht=>numOf_pos (hw t ((this.2.1 l hl).2.2.1 t ht).2)⟩
end
section
open Go.RowKit Go.Shelf
attribute [local go_sem] Oper.semAt_some
structure Made (w':World) (z eb:Nat) (m:Mean) (bb:Nat) (B:SB) (S:ST) (gr cr:Nat) (rs:List RelX) (tv mv:Value) (ka:Option Addr) (ks:List CluX) (kc:Nat) (vals:List Nat) (rk:Nat→List Nat→Option Nat):Prop where
 cell:cQA w' eb #[.pointer (some ⟨bb,0,none⟩)]
 low:z≤eb
 out:eb∉bb :: ftp B gr rs
 eng:tQF w' z bb B S gr cr rs tv mv ka ks kc m vals (lQD m.clauses) rk
 steps:cQE rs (lQD m.clauses) ks 0 (fun _ _=>none) rs.length rk
 next:S.next≤300000000000000
 lay:LayI m.clauses m.rels.length vals
 stable:rQE layG m.clauses vals
theorem tQF.low0 {w:World} {z z' bb:Nat} {B:SB} {S:ST} {gr cr:Nat} {rs:List RelX} {tv mv:Value} {ka:Option Addr} {ks:List CluX} {kc:Nat} {m:Mean} {vals:List Nat} {Fs:Nat→List Nat→Prop} {rk:Nat→List Nat→Option Nat} (h:tQF w z bb B S gr cr rs tv mv ka ks kc m vals Fs rk) (hz:z'≤z):tQF w z' bb B S gr cr rs tv mv ka ks kc m vals Fs rk:=
 ⟨h.bse,h.all,h.kls.sub (fun j hj=>(List.mem_append.1 hj).elim (fun q=>List.mem_append.2 (.inl (by simp at q ⊢;omega))) (fun q=>List.mem_append.2 (.inr q))),h.ksc,⟨sQE h.set.row hz,h.set.rowA,h.set.map.imp id (fun ⟨r,a,b,c,d⟩=>⟨r,a,b,by omega,d⟩)⟩,fun j hj=>Nat.le_trans hz (h.low j hj),h.len,fun i r nm cols hi hc=>by
  obtain ⟨a,b,g,c,d,e,f⟩:=h.rels i r nm cols hi hc
  exact ⟨a,b,g,c,d,Nat.le_trans hz e,f⟩⟩
theorem tQF.off {w w':World} {z bb:Nat} {B:SB} {S:ST} {gr cr:Nat} {rs:List RelX} {tv mv:Value} {ka:Option Addr} {ks:List CluX} {kc:Nat} {m:Mean} {vals:List Nat} {Fs:Nat→List Nat→Prop} {rk:Nat→List Nat→Option Nat} {T:List Nat} (h:tQF w z bb B S gr cr rs tv mv ka ks kc m vals Fs rk) (k:aQA T w w') (h1:∀ j∈bb :: ftp B gr rs,j∉T) (h2:∀ j∈T,j<z):tQF w' z bb B S gr cr rs tv mv ka ks kc m vals Fs rk:=
 ⟨h.bse.other k (h1 bb (by simp)) (h1 gr (by simp [ftp])) (fun r hr=>h1 _ (by simp only [ftp,List.mem_cons,List.mem_append,List.mem_map];exact .inr (.inr (.inl ⟨r,hr,rfl⟩)))) (h.bse.eng.keeps k (fun i hi=>h1 i (List.mem_cons_of_mem _ (eQC hi)))),h.all,h.kls.keeps k (fun j hj=>.inl (List.mem_append.2 (.inl (by simpa using h2 j hj)))),h.ksc,h.set.keeps k (fun j hj=>.inr (.inl (h2 j hj))),h.low,h.len,fun i r nm cols hi hc=>by
  obtain ⟨a,b,g,c,d,e,f⟩:=h.rels i r nm cols hi hc
  exact ⟨a,b,g,c,d,e,f.keepsE k (fun hm=>by have:=h2 g hm;omega)⟩⟩
theorem Made.keeps0 {w w':World} {z eb:Nat} {m:Mean} {bb:Nat} {B:SB} {S:ST} {gr cr:Nat} {rs:List RelX} {tv mv:Value} {ka:Option Addr} {ks:List CluX} {kc:Nat} {vals:List Nat} {rk:Nat→List Nat→Option Nat} (h:Made w z eb m bb B S gr cr rs tv mv ka ks kc vals rk) (k:aQA [] w w'):Made w' z eb m bb B S gr cr rs tv mv ka ks kc vals rk:=⟨h.cell.keeps k (by simp),h.low,h.out,h.eng.keeps0 k,h.steps,h.next,h.lay,h.stable⟩
def LoadTo (w:World) (r:Except Flt (List Tn×Mean)) (e:Ending) (w':World):Prop:=match r with
 | .error f=>e=.returned (.tuple #[.pointer none,.agg #[.int .i64 f.1,.int .i64 f.2]])
 | .ok (_,m)=>∃ eb bb B S gr cr rs tv mv ka ks kc vals rk,e=.returned (.tuple #[.pointer (some ⟨eb,0,none⟩),.agg #[.int .i64 0,.int .i64 0]])∧Made w' w.heap.size eb m bb B S gr cr rs tv mv ka ks kc vals rk
theorem load_text {w:World} (s:ByteArray) (hs:s.size≤9223372036854775807) (hne:∀ toks m,pQE s=.ok (toks,m)→0<m.rels.length):Calls prog 16 #[.string s] w fun e w'=>LoadTo w (pQE s) e w'∧aQA [] w w':=by
 have kA:=aQA.alloc [] w (.cells #[.int .i64 0,.int .i64 0] 28);have hF:=cQA.new w #[.int .i64 0,.int .i64 0] 28;have hrd:=hide (thread_calls (w:=w.alloc (.cells #[.int .i64 0,.int .i64 0] 28)) s hs);rw [dQA] at hrd;obtain ⟨fs,hfs⟩:=und28;cases hR:pQE s with
 | error f=>
  rw [hR] at hrd;clear hne hR;go_enter func16,ntmps16
  go_wp2_with fail
  refine hrd.out.mono ?_;rintro e w1 ⟨rfl,k1⟩;have hF1:=hF.keeps k1 (by simp);have hsz:=k1.size;rw [dQA] at hsz;have kB:=aQA.alloc [] w1 (.cells #[.int .i64 f.1,.int .i64 f.2] 28);have hG:=cQA.new w1 #[.int .i64 f.1,.int .i64 f.2] 28;obtain ⟨c0,f0,c1,f1,hat,hk⟩:=res2 (hF1.keeps kB (by simp)) (.int .i64 f.1) (.int .i64 f.2);have HK:=hide (((kA.trans k1).trans kB).trans_new hk (by simp));have Hat:=hide hat;clear hrd k1 kA kB hF hF1 hat hk hG;go_wp2_with fail
  go_region_law (fail)
  all_goals
   go_wp2_with fail
   exact bodyPost_ret (ret_two (t:=2) (p:=3) (ty:=28) (by kernel_rfl) _ (Hat.out.keeps (aQA.drew [] _) (by simp)) hfs size28 rfl) rfl ⟨rfl,HK.out.trans (aQA.drew [] _)⟩
 | ok q=>
  obtain ⟨toks,m⟩:=q;rw [hR] at hrd;have hfine:=readS_fine hR;have h0:=hne toks m hR;clear hR hne;go_enter func16,ntmps16
  go_wp2_with fail
  refine hrd.out.mono ?_;rintro e w1 ⟨⟨p,vals,rv,cl,tv,rvs,kvs,rfl,hP⟩,k1⟩;have hF1:=hF.keeps k1 (by simp);have hsz:=k1.size;rw [dQA] at hsz;have kB:=aQA.alloc [] w1 (.cells #[.int .i64 0,.int .i64 0] 28);have hG:=cQA.new w1 #[.int .i64 0,.int .i64 0] 28;have hwk:=hide (fun (W:World) (k:aQA [] w1 W)=>work37_calls (hP.keeps k (by simp)) hfine h0);have hF2:=hide (hF1.keeps kB (by simp));have HG:=hide hG;have HK:=hide ((kA.trans k1).trans kB);have HkB:=hide kB;have HP:=hide (And.intro hP.lay hP.stable);clear hrd k1 kA kB hF hF1 hG hP hfine h0;go_wp2_with fail
  go_region_law (refine kQA rfl 37 _ _ rfl _ func37 (by kernel_rfl) (by kernel_rfl) [.pointer (some ⟨p,0,none⟩)] rfl ?_
                 refine (hwk.out _ (HkB.out.trans (aQA.drew _ _))).mono ?_;rintro e w5 ⟨bb,B,S,gr,cr,rs,tv5,mv5,ka,ks,kc,rk,rfl,hE5,hs5,hn5,k5⟩;have kE:=aQA.alloc [] w5 (.cells #[.pointer (some ⟨bb,0,none⟩)] 89);have q0:=(HG.out.keeps (aQA.drew [] _) (by simp)).keeps k5 (by simp);have q1:=(hF2.out.keeps (aQA.drew [] _) (by simp)).keeps k5 (by simp);have q2:=q0.cell 0;have q3:=q0.cell 1;have r2:=(q0.keeps kE (by simp)).cell 0;have r3:=(q0.keeps kE (by simp)).cell 1;have hEb:=cQA.new w5 #[.pointer (some ⟨bb,0,none⟩)] 89;obtain ⟨s0,s1,s2,s3,s4,s5⟩:=res2 (q1.keeps kE (by simp)) (.int .i64 0) (.int .i64 0)
                 have hlt:=ftp_lt hE5.bse)
  all_goals
   go_wp2_with fail
   have k15:=(HK.out.trans (aQA.drew [] _)).trans k5;have hbig:w.heap.size+1≤w1.heap.size:=(by omega);have hz5:w1.heap.size+1≤w5.heap.size:=by have:=k5.size;rw [show ((w1.alloc (.cells #[.int .i64 0,.int .i64 0] 28)).drew).heap.size=(w1.alloc (.cells #[.int .i64 0,.int .i64 0] 28)).heap.size from rfl,dQA] at this;exact this
   have hno:w.heap.size∉bb :: ftp B gr rs:=fun hm=>by have:=hE5.low _ hm;omega
   have kS:=s5.mono (T':=[w.heap.size]) (by simp);have hE6:=(hE5.keeps0 kE).off (T:=[w.heap.size]) kS (fun j hj hm=>hno (by simp only [List.mem_singleton] at hm;rw [←hm];exact hj)) (fun j hj=>by simp only [List.mem_singleton] at hj;omega);refine bodyPost_ret (ret_two (t:=2) (p:=3) (ty:=28) (by kernel_rfl) _ s4 hfs size28 rfl) rfl ⟨?_,(k15.trans kE).trans_new s5 (by simp)⟩;exact ⟨w5.heap.size,bb,B,S,gr,cr,rs,tv5,mv5,ka,ks,kc,vals,rk,rfl,⟨hEb.keeps s5 (by simp;omega),k15.size,fun hm=>by have:=hlt _ hm;omega,hE6.low0 (by omega),hs5,hn5,HP.out.1,HP.out.2⟩⟩
end
end Go.Proofs.YtgjomknpjigkhaaGreatDoor
