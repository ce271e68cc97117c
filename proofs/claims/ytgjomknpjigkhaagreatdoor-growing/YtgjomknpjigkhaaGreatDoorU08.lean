import Derived.Test.YtgjomknpjigkhaaGreatDoorU07
namespace Go.Proofs.YtgjomknpjigkhaaGreatDoor
open Go.Proofs.Tryz
set_option maxRecDepth 100000
set_option maxHeartbeats 4000000
section
open Go.RowKit
def TmRow (w:World) (g:Nat) (ts:List uQA):Prop:=g<w.heap.size∧∀ (j:Nat) (t:uQA),ts[j]?=some t→w.cell? ⟨g,j * 2,none⟩=some (.bool t.isVar)∧w.cell? ⟨g,j * 2+1,none⟩=some (.int .i64 t.num)
theorem TmRow.keeps {w w':World} {g:Nat} {ts:List uQA} {T:List Nat} (h:TmRow w g ts) (k:aQA T w w') (hg:g∉T):TmRow w' g ts:=
 ⟨Nat.lt_of_lt_of_le h.1 k.size,fun j t hj=>by rw [cQF k h.1 hg,cQF k h.1 hg];exact h.2 j t hj⟩
def ByIs (S:ST) (bys:List Int) (Gs:List ((Int→Bool)→Bool)):Prop:=bys.length=Gs.length∧∀ (i:Nat) (b:Int) (G:(Int→Bool)→Bool),bys[i]?=some b→Gs[i]?=some G→RepB S b (fun σ=>G σ=true)
theorem ByIs.ext {S S':ST} {bys:List Int} {Gs:List ((Int→Bool)→Bool)} (h:ByIs S bys Gs) (x:Ext S S') (hw:WF S) (hw':WF S'):ByIs S' bys Gs:=⟨h.1,fun i b G h1 h2=>(h.2 i b G h1 h2).ext x hw hw'⟩
theorem ByIs.snoc {S:ST} {bys:List Int} {Gs:List ((Int→Bool)→Bool)} (h:ByIs S bys Gs) {b:Int} {G:(Int→Bool)→Bool} (hb:RepB S b (fun σ=>G σ=true)):ByIs S (bys++[b]) (Gs++[G]):=by
 refine ⟨by simp [h.1],fun i b' G' h1 h2=>?_⟩;rcases Nat.lt_trichotomy i bys.length with hi | hi | hi
 ·rw [List.getElem?_append_left hi] at h1;rw [List.getElem?_append_left (by rw [←h.1];exact hi)] at h2;exact h.2 i b' G' h1 h2
 ·subst hi;rw [List.getElem?_append_right (Nat.le_refl _)] at h1;rw [h.1,List.getElem?_append_right (Nat.le_refl _)] at h2;simp at h1 h2;subst h1 h2;exact hb
 ·rw [List.getElem?_eq_none (by simp;omega)] at h1;cases h1
theorem ByIs.ok {S:ST} {bys:List Int} {Gs:List ((Int→Bool)→Bool)} (h:ByIs S bys Gs):∀ b∈bys,S.ok b:=fun b hb=>by
 obtain ⟨i,hi,rfl⟩:=List.getElem_of_mem hb;exact (h.2 i _ _ (List.getElem?_eq_getElem hi) (List.getElem?_eq_getElem (by rw [←h.1];exact hi))).1
theorem ByIs.val {S:ST} {bys:List Int} {Gs:List ((Int→Bool)→Bool)} (h:ByIs S bys Gs) {i:Nat} {G:(Int→Bool)→Bool} (hi:Gs[i]?=some G) (σ:Int→Bool):sbV S bys σ (i:Int)=G σ:=by
 have hl:i<bys.length:=by rw [h.1];exact (List.getElem?_eq_some_iff.1 hi).1
 unfold sbV;rw [Int.toNat_natCast,List.getElem?_eq_getElem hl,Option.getD_some];exact Bool.eq_iff_iff.2 ((h.2 i _ G (List.getElem?_eq_getElem hl) hi).2 σ)
def tb3 (t:uQA):List ((Int→Bool)→Bool):=[fun σ=>tbit σ t 0,fun σ=>tbit σ t 1,fun σ=>tbit σ t 2]
def tbs (ts:List uQA):List ((Int→Bool)→Bool):=ts.flatMap tb3
theorem tbs_len (ts:List uQA):(tbs ts).length=3 * ts.length:=by
 induction ts with
 | nil=>rfl
 | cons t ts ih=>
  have e:(tbs (t :: ts)).length=3+(tbs ts).length:=by simp [tbs,tb3];omega
  rw [e,ih,List.length_cons];omega
theorem tbs_at {ts:List uQA} {p:Nat} {t:uQA} (h:ts[p]?=some t) {i:Nat} (hi:i<3):(tbs ts)[3 * p+i]?=some (fun σ=>tbit σ t i):=by
 induction ts generalizing p with
 | nil=>simp at h
 | cons y ts ih=>
  have e:tbs (y :: ts)=tb3 y++tbs ts:=by simp [tbs]
  cases p with
  | zero=>
   simp at h;subst h;rw [e,List.getElem?_append_left (by simp [tb3];omega)];match i with
   | 0=>rfl
   | 1=>rfl
   | 2=>rfl
   | i+3=>omega
  | succ p=>
   rw [e,List.getElem?_append_right (by simp [tb3];omega),show 3 * (p+1)+i - (tb3 y).length=3 * p+i by simp [tb3];omega];exact ih (by simpa using h)
theorem tup_terms {τ σ:Int→Bool}:∀ (ts:List uQA) (q:Nat),(∀ t∈ts,TmOk t)→(∀ (p:Nat) (t:uQA),ts[p]?=some t→∀ i,i<3→τ (3 * (q+p)+i:Nat)=tbit σ t i)→tupF τ q ts.length=ts.map (tnum σ)
 | [],_,_,_=>rfl
 | t :: ts,q,hk,h=>by
  simp only [List.length_cons,tupF,List.map_cons];rw [tup_terms ts (q+1) (fun t ht=>hk t (List.mem_cons_of_mem _ ht)) fun p t hp i hi=>by rw [show q+1+p=q+(p+1) by omega];exact h (p+1) t (by simpa using hp) i hi];congr 1
  rw [tnum_bits σ (hk t (by simp))];unfold numA;have h0:=h 0 t rfl 0 (by omega);have h1:=h 0 t rfl 1 (by omega);have h2:=h 0 t rfl 2 (by omega);simp only [Nat.add_zero] at h0 h1 h2;rw [h0,h1,h2]
theorem where_calls {w:World} {B:SB} {S:ST} (hE:EngS w B S) {bb:Nat} (hb:BsAt w bb B) {f:Int} (ρ:Int) {g c:Nat} (ts:List uQA) (hg:g∉B.own) (hrow:TmRow w g ts) (htm:∀ t∈ts,TmOk t) (h1:0<ts.length) (h4:ts.length≤4) {R:List Nat→Prop} (hf:Rep S f ts.length R) (hl:S.next+16769100<lim) :
  Calls prog 262 #[.pointer (some ⟨bb,0,none⟩),.int .i64 f,.agg #[.int .i64 ρ,.slice (some ⟨g,0,none⟩) ts.length c]] w (OutB B w S (fun σ=>R (ts.map (tnum σ))) 16769037):=by
 obtain ⟨i0,hi0,hz0,hz1,hz2⟩:=info_parts info3;have kA:=aQA.alloc [] w (.cells #[.int .i64 ρ,.slice (some ⟨g,0,none⟩) ts.length c] 151);have hE1:=hE.keeps0 kA;have hb1:=hb.keeps kA (by simp);have hr1:=hrow.keeps kA (by simp);have hsz:=dQA w (.cells #[.int .i64 ρ,.slice (some ⟨g,0,none⟩) ts.length c] 151);have Hl:=hide hl;have Hfr:=hide (fun j (hj:w.heap.size≤j)=>hE.sat.fresh hj);clear hl;go_enter func262,ntmps262
 go_wp2_with fail
 generalize w.alloc (.cells #[.int .i64 ρ,.slice (some ⟨g,0,none⟩) ts.length c] 151)=W at *;have Hz:=hide hsz;clear hsz;generalize hzz:w.heap.size=z at *;go_loopw [7,14] (fun x y wr=>∃ (j:Nat) (bys:List Int) (S1:ST),y=.int .i64 j∧j≤ts.length∧EngS wr B S1∧aQA B.own w wr∧Ext S S1∧S1.next≤S.next+3 * j∧ByIs S1 bys (tbs (ts.take j))∧Hid (wr.ownsRow z 3 1 x (3 * j) (ints bys))) (fun _ y _=>((ts.length:Int) - intOf y).toNat)
 case atStart=>exact ⟨0,[],S,rfl,by omega,hE1,kA.mono (by simp),Ext.refl S,by omega,⟨rfl,fun i b G h=>by simp at h⟩,hide ⟨rfl,.inl ⟨rfl,rfl⟩⟩⟩
 case round=>
  obtain ⟨j,bys,S1,rfl,hj,hEr,hk,hx,hn,hby,hown⟩:=hrel;have hbr:=hb.own hk;have hrr:=hrow.keeps hk hg;by_cases hjl:j<ts.length
  ·have hjI:(j:Int)<ts.length:=(by omega);rename World=>wo;obtain ⟨t,ht⟩:∃ t,ts[j]?=some t:=⟨_,List.getElem?_eq_getElem hjl⟩;obtain ⟨g1,g2⟩:=hrr.2 j t ht;have htk:ts.take (j+1)=ts.take j++[t]:=by rw [List.take_add_one,ht];rfl
   have htb:tbs (ts.take (j+1))=tbs (ts.take j)++tb3 t:=by rw [htk];simp [tbs]
   have hto:=htm t (List.mem_of_getElem? ht);obtain ⟨v,m⟩:=t;simp only at g1 g2;have kB:=aQA.alloc [] wo (.cells #[.bool v,.int .i64 m] 220);have hEb:=hEr.keeps0 kB;have hbb:=hbr.keeps kB (by simp);have hTb:=cQA.new wo #[.bool v,.int .i64 m] 220;have hob:=hide (bQA hown.out kB (by simp));have hne:∀ q,Value.ownBlock u7=some q→q≠wo.heap.size:=fun q hq=>by have:=(World.ownsRow.lt hown.out q hq).2;omega
   have Hne:=hide hne;have hwz:z≤wo.heap.size:=by have:=hk.size;omega
   have hsb:=dQA wo (.cells #[.bool v,.int .i64 m] 220);have Hn:=hide hn;have Htb:=hide htb;have Hto:=hide hto;have Hwr:=hide hwz;have Hsb:=hide hsb;clear hn htb htk ht hto hwz hsb hown hne;go_wp2_with fail
   generalize hWb:wo.alloc (.cells #[.bool v,.int .i64 m] 220)=Wb at *;generalize hyb:wo.heap.size=yb at *;go_loopw [7,18] (fun x y wr=>∃ (i:Nat) (bs:List Int) (S2:ST),y=.int .i64 i∧i≤3∧EngS wr B S2∧aQA B.own w wr∧cQA wr yb #[.bool v,.int .i64 m]∧(∀ q,Value.ownBlock x=some q→q≠yb)∧Ext S1 S2∧S2.next≤S1.next+i∧ByIs S2 bs (tbs (ts.take j)++(tb3 ⟨v,m⟩).take i)∧Hid (wr.ownsRow z 3 1 x (3 * j+i) (ints bs))) (fun _ y _=>((3:Int) - intOf y).toNat)
   case atStart=>exact ⟨0,bys,S1,rfl,by omega,hEb,hk.trans (kB.mono (by simp)),hTb,Hne.out,Ext.refl S1,by omega,by simpa using hby,hob⟩
   case round=>
    obtain ⟨i,bs,S2,rfl,hi,hEi,hki,hTi,hnei,hxi,hni,hbi,howi⟩:=hrel;have Hnei:=hide hnei;clear hnei;by_cases hi3:i<3
    ·have hiI:(i:Int)<3:=(by omega);have q0:=hTi.cell 0;have q1:=hTi.cell 1;simp at q0 q1;have hbt:=hide (bit_calls hEi (hb.own hki) ⟨v,m⟩ Hto.out i hi3 (by have:=Hl.out;have:=Hn.out;omega));simp only [tmV] at hbt;have Hni:=hide hni;clear hni;go_wp2_with fail
     refine hbt.out.mono ?_;rintro e W3 ⟨y,S3,rfl,hE3,k3,x3,n3,hr3⟩;have hlow:∀ q,Value.ownBlock u7=some q→q∉B.own:=fun q hq=>Hfr.out q (hQA howi.out q hq).1;have ho3:=bQA howi.out k3 hlow;have kC:=aQA.alloc [] W3 (.cells #[.int .i64 y] 3);have hoC:=bQA ho3 kC (by simp);have hsz3:z≤(W3.alloc (.cells #[.int .i64 y] 3)).heap.size:=by rw [dQA];have:=k3.size;have:=hki.size;omega
     have hone:=pQJ (W:=W3) (y:=y);have hbl:=hbi.1;clear hbt q0 q1;go_wp2_with (at_builtin;refine wpList_append_own_at _ rfl _ _ 40 rfl z 3 i0 (.int .i64 0) 1 8 underlying40 hi0 hz0 hz1 hz2 rfl (by decide) _ (3 * j+i) (ints bs) rfl hoC ⟨W3.heap.size,0,none⟩ 1 1 (ints [y]) rfl (by simp [ints]) hone (wQF _) (by unfold maxLen;omega) (by omega) hsz3 ?_)
     intro v' W4 hown4 hgrow4 hnil4 hat4;have k4:=grownBy_keeps' hgrow4 (Value.ownBlock u7).toList (fun r e=>.inl (by simp [e]));have hlT:∀ q∈B.own,q∉(Value.ownBlock u7).toList:=fun q hq hx=>hlow q (by simpa using hx) hq;have hE4:=(hE3.keeps0 kC).keeps k4 hlT;have k34:aQA B.own w W4:=((hki.trans k3).trans (kC.mono (by simp))).trans_new k4 (fun q hq=>.inr (by rw [hzz];exact (hQA howi.out q (by simpa using hq)).1));have hT4:=((hTi.keeps k3 (Hfr.out _ Hwr.out)).keeps kC (by simp)).keeps k4 (fun hq=>Hnei.out _ (by simpa using hq) rfl);have hyl:yb<W3.heap.size:=(hTi.keeps k3 (Hfr.out _ Hwr.out)).lt;have hne4:∀ q,Value.ownBlock v' = some q→q≠yb:=fun q hq=>by
      rcases hat4 with e | e
      ·rw [e] at hq;exact Hnei.out q hq
      ·rw [e] at hq;have:=Option.some.inj hq;omega
     have Hne4:=hide hne4;have h3e:(tb3 ⟨v,m⟩)[i]?=some (fun σ=>tbit σ ⟨v,m⟩ i):=by
      match i with
      | 0=>rfl
      | 1=>rfl
      | 2=>rfl
      | i+3=>omega
     have H3e:=hide h3e;have Hown4:=hide hown4;clear h3e hown4 hgrow4 hnil4 hat4 hone hsz3 hoC ho3 hne4 hyl;go_wp2_with fail
     go_roundw
     ·refine ⟨i+1,bs++[y],S3,by simp,by omega,hE4,k34,hT4,Hne4.out,hxi.trans x3,by have:=Hni.out;push_cast;omega,?_,hide ?_⟩
      ·rw [List.take_add_one,H3e.out,←List.append_assoc];exact (hbi.ext x3 hEi.wf hE3.wf).snoc hr3
      ·have:=Hown4.out;simpa [ints,Nat.add_assoc] using this
     ·simp only [intOf];omega
    ·have hiI:¬ (i:Int)<3:=(by omega);have e:i=3:=(by omega);subst e;have Hni:=hide hni;clear hni;go_wp2_with fail
     go_roundw
     ·refine ⟨j+1,bs,S2,by simp,by omega,hEi,hki,hx.trans hxi,by have:=Hni.out;have:=Hn.out;push_cast;omega,?_,?_⟩
      ·rw [Htb.out];exact hbi
      ·exact hide howi.out
     ·simp only [intOf];omega
  ·have hjI:¬ (j:Int)<ts.length:=(by omega);have e:j=ts.length:=(by omega);subst e;rw [List.take_length] at hby;have hbl:bys.length=3 * ts.length:=(by rw [hby.1,tbs_len]);rw [←hbl] at hown;obtain ⟨gb,cb,hv,hgb,hrb,_⟩:=oQL hown.out (by omega);subst hv;have Hby:=hide hby;have hs:=hide (subst_E (ct:=cb) hEr (k:=3 * ts.length) (hx.ok hf.1) (hf.hk.ext hx hE.wf hEr.wf hf.1) hrb (Hfr.out _ hgb) (by omega) hby.ok (by have:=Hl.out;omega));have g0:=hbr.cell;have Hn:=hide hn;clear hn hown hbl hby hrb;go_wp2_with fail
   refine hs.out.mono ?_;rintro e W3 ⟨r,S3,rfl,hE3,k3,x3,n3,hr3⟩;go_wp2_with fail
   go_ret
   refine ⟨r,S3,rfl,hE3,hk.trans k3,hx.trans x3,by have:=Hn.out;omega,hr3.1,fun σ=>?_⟩;rw [hr3.2];show S1.den f (sbV S1 bys σ)=true↔R (ts.map (tnum σ));rw [hx.den hE.wf hEr.wf hf.1,hf.2,tup_terms (σ:=σ) ts 0 htm];intro p t hp i hi;rw [Nat.zero_add];exact Hby.out.val (tbs_at hp hi) σ
end
section
open Go.RowKit
def isV (v:Nat) (t:uQA):Bool:=t.isVar && decide (t.num=(v:Int))
def fcol (ts:List uQA) (v:Nat):Int:=match ts.findIdx? (isV v) with
 | some p=>(p:Int)
 | none=>-1
theorem index_calls {w:World} {g c:Nat} (ts:List uQA) (hrow:TmRow w g ts) (h4:ts.length≤4) (v:Nat) :
  Calls prog 209 #[.slice (some ⟨g,0,none⟩) ts.length c,.agg #[.bool true,.int .i64 (v:Int)]] w fun e w'=>e=.returned (.int .i64 (fcol ts v))∧aQA [] w w':=by
 have kA:=aQA.alloc [] w (.cells #[.bool true,.int .i64 (v:Int)] 220);have hT:=cQA.new w #[.bool true,.int .i64 (v:Int)] 220;have hr1:=hrow.keeps kA (by simp);go_enter func209,ntmps209
 go_wp2_with fail
 generalize w.alloc (.cells #[.bool true,.int .i64 (v:Int)] 220)=W at *;generalize w.heap.size=z at *;go_loopw [8] (fun y wr=>∃ j:Nat,y=.int .i64 j∧j≤ts.length∧aQA [] W wr∧∀ p,p<j→∀ t,ts[p]?=some t→isV v t=false) (fun y _=>((ts.length:Int) - intOf y).toNat)
 case atStart=>exact ⟨0,rfl,by omega,aQA.refl _ _,fun p h=>by omega⟩
 case round=>
  obtain ⟨j,rfl,hj,hk,hno⟩:=hrel;have hTr:=hT.keeps hk (by simp);have hrr:=hr1.keeps hk (by simp);have Hno:=hide hno;clear hno;have q0:=hTr.cell 0;have q1:=hTr.cell 1;simp at q0 q1;by_cases hjl:j<ts.length
  ·have hjI:(j:Int)<ts.length:=(by omega);obtain ⟨t,ht⟩:∃ t,ts[j]?=some t:=⟨_,List.getElem?_eq_getElem hjl⟩;obtain ⟨g1,g2⟩:=hrr.2 j t ht;have Ht:=hide ht;clear ht;cases hm:isV v t with
   | true=>
    obtain ⟨b,m⟩:=t;simp only [isV,Bool.and_eq_true,decide_eq_true_eq] at hm g1 g2;obtain ⟨rfl,rfl⟩:=hm;go_wp2_with fail
    go_quiet (fail)
    go_wp2_with fail
    go_ret
    refine ⟨?_,(kA.trans hk).trans (aQA.drewN _ _ _)⟩;have e:ts.findIdx? (isV v)=some j:=by
     rw [List.findIdx?_eq_some_iff_getElem];refine ⟨hjl,?_,fun p hp=>?_⟩
     ·have:=(List.getElem?_eq_some_iff.1 Ht.out).2;rw [this];simp [isV]
     ·have:=Hno.out p hp _ (List.getElem?_eq_getElem (by omega));simp [this]
    unfold fcol;rw [e];rfl
   | false=>
    obtain ⟨b,m⟩:=t;simp only at g1 g2;have Hm:=hide hm;have hnx:∀ p,p<j+1→∀ t,ts[p]?=some t→isV v t=false:=fun p hp t h=>by
     by_cases e:p<j
     ·exact Hno.out p e t h
     ·have e2:p=j:=(by omega);subst e2;rw [Ht.out] at h;cases h;exact Hm.out
    have Hnx:=hide hnx;clear hm hnx;cases b with
    | true=>
     have hne:((v:Int) == m)=false:=by
      have:=Hm.out;simp only [isV,Bool.true_and,decide_eq_false_iff_not] at this;simpa using fun h:(v:Int)=m=>this h.symm
     go_wp2_with fail
     go_quiet (fail)
     go_wp2_with fail
     go_roundw
     ·exact ⟨j+1,by simp,by omega,hk.trans (aQA.drewN _ _ _),Hnx.out⟩
     ·simp only [intOf];omega
    | false=>
     go_wp2_with fail
     go_quiet (fail)
     go_wp2_with fail
     go_roundw
     ·exact ⟨j+1,by simp,by omega,hk.trans (aQA.drewN _ _ _),Hnx.out⟩
     ·simp only [intOf];omega
  ·have hjI:¬ (j:Int)<ts.length:=(by omega);have e:j=ts.length:=(by omega);subst e;go_wp2_with fail
   go_ret
   refine ⟨?_,kA.trans hk⟩;have e:ts.findIdx? (isV v)=none:=by
    rw [List.findIdx?_eq_none_iff];intro t ht;obtain ⟨p,hp,rfl⟩:=List.getElem_of_mem ht;exact Hno.out p hp _ (List.getElem?_eq_getElem hp)
   unfold fcol;rw [e];rfl
def fcA (ts:List uQA) (j:Nat):Array Value:=#[.int .i64 (if 0<j then fcol ts 0 else 0),.int .i64 (if 1<j then fcol ts 1 else 0),.int .i64 (if 2<j then fcol ts 2 else 0),.int .i64 (if 3<j then fcol ts 3 else 0)]
theorem fcA_at (ts:List uQA) {j:Nat} (h:j<4):(fcA ts j)[j]?=some (.int .i64 0):=by
 match j with
 | 0=>rfl
 | 1=>rfl
 | 2=>rfl
 | 3=>rfl
 | j+4=>omega
theorem fcA_set (ts:List uQA) {j:Nat} (h:j<4):(fcA ts j).setIfInBounds j (.int .i64 (fcol ts j))=fcA ts (j+1):=by
 match j with
 | 0=>rfl
 | 1=>rfl
 | 2=>rfl
 | 3=>rfl
 | j+4=>omega
structure RsA (w:World) (r:Nat) (a0 a1 a2 a3 x0 x1 x2 x3:Value):Prop where
 c0:w.cell? ⟨r,0,none⟩=some a0
 f0:w.frozen? ⟨r,0,none⟩=false
 c1:(w.setCell ⟨r,0,none⟩ x0).cell? ⟨r,1,none⟩=some a1
 f1:(w.setCell ⟨r,0,none⟩ x0).frozen? ⟨r,1,none⟩=false
 c2:((w.setCell ⟨r,0,none⟩ x0).setCell ⟨r,1,none⟩ x1).cell? ⟨r,2,none⟩=some a2
 f2:((w.setCell ⟨r,0,none⟩ x0).setCell ⟨r,1,none⟩ x1).frozen? ⟨r,2,none⟩=false
 c3:(((w.setCell ⟨r,0,none⟩ x0).setCell ⟨r,1,none⟩ x1).setCell ⟨r,2,none⟩ x2).cell? ⟨r,3,none⟩=some a3
 f3:(((w.setCell ⟨r,0,none⟩ x0).setCell ⟨r,1,none⟩ x1).setCell ⟨r,2,none⟩ x2).frozen? ⟨r,3,none⟩=false
 at_:cQA ((((w.setCell ⟨r,0,none⟩ x0).setCell ⟨r,1,none⟩ x1).setCell ⟨r,2,none⟩ x2).setCell ⟨r,3,none⟩ x3) r #[x0,x1,x2,x3]
 keeps:aQA [r] w ((((w.setCell ⟨r,0,none⟩ x0).setCell ⟨r,1,none⟩ x1).setCell ⟨r,2,none⟩ x2).setCell ⟨r,3,none⟩ x3)
theorem rsA {w:World} {r:Nat} {a0 a1 a2 a3:Value} (h:cQA w r #[a0,a1,a2,a3]) (x0 x1 x2 x3:Value):RsA w r a0 a1 a2 a3 x0 x1 x2 x3:=by
 have h1:=h.setCell 0 x0;have h2:=h1.setCell 1 x1;have h3:=h2.setCell 2 x2;have h4:=h3.setCell 3 x3;exact ⟨h.cell 0,h.frozen 0,h1.cell 1,h1.frozen 1,h2.cell 2,h2.frozen 2,h3.cell 3,h3.frozen 3,h4,(((aQA.setCell w ⟨r,0,none⟩ x0).trans (aQA.setCell _ ⟨r,1,none⟩ x1)).trans (aQA.setCell _ ⟨r,2,none⟩ x2)).trans (aQA.setCell _ ⟨r,3,none⟩ x3)⟩
theorem first_calls {w:World} {g c:Nat} (ρ:Int) (ts:List uQA) (hrow:TmRow w g ts) (h4:ts.length≤4) :
  Calls prog 142 #[.agg #[.int .i64 ρ,.slice (some ⟨g,0,none⟩) ts.length c]] w fun e w'=>e=.returned (.agg #[.int .i64 (fcol ts 0),.int .i64 (fcol ts 1),.int .i64 (fcol ts 2),.int .i64 (fcol ts 3)])∧aQA [] w w':=by
 have kA:=aQA.alloc [] w (.cells #[.int .i64 ρ,.slice (some ⟨g,0,none⟩) ts.length c] 151);have hA:=cQA.new w #[.int .i64 ρ,.slice (some ⟨g,0,none⟩) ts.length c] 151;generalize hW1:w.alloc (.cells #[.int .i64 ρ,.slice (some ⟨g,0,none⟩) ts.length c] 151)=W1 at kA hA;have hs1:W1.heap.size=w.heap.size+1:=by rw [←hW1];exact dQA _ _
 have kB:=aQA.alloc [] W1 (.cells #[.int .i64 0,.int .i64 0,.int .i64 0,.int .i64 0] 216);have hB:=cQA.new W1 #[.int .i64 0,.int .i64 0,.int .i64 0,.int .i64 0] 216;generalize hW2:W1.alloc (.cells #[.int .i64 0,.int .i64 0,.int .i64 0,.int .i64 0] 216)=W2 at kB hB;have hs2:W2.heap.size=w.heap.size+1+1:=by rw [←hW2,←hs1];exact dQA _ _
 have kC:=aQA.alloc [] W2 (.cells #[.int .i64 0,.int .i64 0,.int .i64 0,.int .i64 0] 216);have hC:=cQA.new W2 #[.int .i64 0,.int .i64 0,.int .i64 0,.int .i64 0] 216;generalize hW3:W2.alloc (.cells #[.int .i64 0,.int .i64 0,.int .i64 0,.int .i64 0] 216)=W3 at kC hC;rw [hs1] at hB;rw [hs2] at hC;have hA3:=(hA.keeps kB (by simp)).keeps kC (by simp);have hB3:=hB.keeps kC (by simp);have hr3:=((hrow.keeps kA (by simp)).keeps kB (by simp)).keeps kC (by simp);have kk:=(kA.trans kB).trans kC;have hgl:=hrow.1;go_enter func142,ntmps142
 go_wp2_with fail
 clear hW1 hW2 hW3 hs1 hs2 kA kB kC hA hB;generalize hz:w.heap.size=z at *;go_loopw [5] (fun y wr=>∃ j:Nat,y=.int .i64 j∧j≤4∧cQA wr (z+1+1) (fcA ts j)∧aQA [z+1+1] W3 wr) (fun y _=>((4:Int) - intOf y).toNat)
 case atStart=>exact ⟨0,rfl,by omega,hC,aQA.refl _ _⟩
 case round=>
  obtain ⟨j,rfl,hj,hc,hk⟩:=hrel;have hAr:=hA3.keeps hk (by simp;omega);have hrr:=hr3.keeps hk (by simp;omega);have a1:=hAr.cell 1;simp at a1;by_cases hj4:j<4
  ·have hjI:(j:Int)<4:=(by omega);have hix:=hide (index_calls (c:=c) ts hrr h4 j);have c0:wr.cell? ⟨z+1+1,j,none⟩=some (.int .i64 0):=by rw [hc.cell];exact fcA_at ts hj4
   have hnx:=fcA_set ts hj4;have Hnx:=hide hnx;clear hnx;go_wp2_with fail
   refine hix.out.mono ?_;rintro e W4 ⟨rfl,k4⟩;have hc4:=hc.keeps k4 (by simp);have c4:W4.cell? ⟨z+1+1,j,none⟩=some (.int .i64 0):=by rw [hc4.cell];exact fcA_at ts hj4
   have f4:=hc4.frozen j;have hs4:=hc4.setCell j (.int .i64 (fcol ts j));rw [Hnx.out] at hs4;have kS:=aQA.setCell W4 ⟨z+1+1,j,none⟩ (.int .i64 (fcol ts j));generalize hF:fcol ts j=F at *;go_wp2_with fail
   go_roundw
   ·exact ⟨j+1,by simp,by omega,hs4,(hk.trans (k4.mono (by simp))).trans kS⟩
   ·simp only [intOf];omega
  ·have hjI:¬ (j:Int)<4:=(by omega);have e:j=4:=(by omega);subst e;have b0:=hc.cell 0;have b1:=hc.cell 1;have b2:=hc.cell 2;have b3:=hc.cell 3;simp [fcA] at b0 b1 b2 b3;obtain ⟨r0,p0,r1,p1,r2,p2,r3,p3,hR,kR⟩:=rsA (hB3.keeps hk (by simp)) (.int .i64 (fcol ts 0)) (.int .i64 (fcol ts 1)) (.int .i64 (fcol ts 2)) (.int .i64 (fcol ts 3));have HR:=hide hR;have KR:=hide kR;clear hR kR;generalize hF0:fcol ts 0=F0 at *;generalize hF1:fcol ts 1=F1 at *;generalize hF2:fcol ts 2=F2 at *;generalize hF3:fcol ts 3=F3 at *;go_wp2_with fail
   obtain ⟨ty,hty⟩:=HR.out;refine bodyPost_ret (v:=.agg #[.int .i64 F0,.int .i64 F1,.int .i64 F2,.int .i64 F3]) (results_cell_row (p:=2) (ty:=216) (by kernel_rfl) _ _ _ _ _ _ _ rfl hty underlying216 rfl (by kernel_rfl)) rfl ⟨rfl,?_⟩;have hl:∀ i∈[z+1+1],i∈([]:List Nat)∨w.heap.size≤i:=fun i hi=>.inr (by simp at hi;omega);have hl2:∀ i∈[z+1],i∈([]:List Nat)∨w.heap.size≤i:=fun i hi=>.inr (by simp at hi;omega);exact (kk.trans_new hk hl).trans_new KR.out hl2
end
section
open Go.RowKit
theorem run_index4 (a b c d:Int) (i:Nat) (hi:i<4) (w:World):(Instr.index 216 (.agg #[.int .i64 a,.int .i64 b,.int .i64 c,.int .i64 d]) (.int .i64 (i:Int))).run prog w=.ok (.int .i64 ([a,b,c,d].getD i 0)) w:=by
 have hu:=underlying216;match i with
 | 0=>simp [Instr.index,run_underlying hu,go_sem]
 | 1=>simp [Instr.index,run_underlying hu,go_sem]
 | 2=>simp [Instr.index,run_underlying hu,go_sem]
 | 3=>simp [Instr.index,run_underlying hu,go_sem]
 | i+4=>omega
def GoneIs (fc:Nat→Int) (q G:Nat):Prop:=G<2 ^ q∧∀ u,u<q→(G.testBit u=true↔fc (u / 3)<0)
def hG (fc:Nat→Int) (q u:Nat):(Int→Bool)→Bool:=fun σ=>if u<q∧0≤fc (u / 3) then σ (3 * (fc (u / 3)).toNat+u % 3:Nat) else false
def hGs (fc:Nat→Int) (q:Nat):List ((Int→Bool)→Bool):=(List.range 12).map (hG fc q)
theorem GoneIs.skip {fc:Nat→Int} {q G:Nat} (h:GoneIs fc q G) (hf:¬ fc (q / 3)<0):GoneIs fc (q+1) G:=by
 refine ⟨Nat.lt_of_lt_of_le h.1 (Nat.pow_le_pow_right (by decide) (by omega)),fun u hu=>?_⟩;by_cases e:u<q
 ·exact h.2 u e
 ·have:u=q:=by omega
  subst this;rw [Nat.testBit_lt_two_pow h.1];simp;omega
theorem GoneIs.add {fc:Nat→Int} {q G:Nat} (h:GoneIs fc q G) (hf:fc (q / 3)<0):GoneIs fc (q+1) (G+2 ^ q):=by
 have e:G+2 ^ q=2 ^ q * 1+G:=by rw [Nat.mul_one,Nat.add_comm]
 have h1:=h.1;refine ⟨by rw [Nat.pow_succ];omega,fun u hu=>?_⟩;rw [e,Nat.testBit_two_pow_mul_add _ h.1];by_cases e:u<q
 ·rw [if_pos e];exact h.2 u e
 ·have:u=q:=by omega
  subst this;rw [if_neg (by omega)];simp [hf]
theorem hGs_skip {fc:Nat→Int} {q:Nat} (hf:fc (q / 3)<0):hGs fc (q+1)=hGs fc q:=by
 unfold hGs;refine List.map_congr_left fun u _=>?_;funext σ
 unfold hG;by_cases e:u=q
 ·subst e;rw [if_neg (by omega),if_neg (by omega)]
 ·have:(u<q+1∧0≤fc (u / 3))↔(u<q∧0≤fc (u / 3)):=by omega
  simp only [this]
theorem ByIs.put {S:ST} {bys:List Int} {fc:Nat→Int} {q:Nat} {y:Int} (h:ByIs S bys (hGs fc q)) (hq:q<12) (hf:¬ fc (q / 3)<0) (hy:RepB S y (fun σ=>σ (3 * (fc (q / 3)).toNat+q % 3:Nat)=true)):ByIs S (bys.set q y) (hGs fc (q+1)):=by
 have hl:bys.length=12:=by rw [h.1];simp [hGs]
 refine ⟨by rw [List.length_set,hl];simp [hGs],fun i b G h1 h2=>?_⟩;rw [List.getElem?_set] at h1;by_cases e:q=i
 ·subst e;rw [if_pos rfl,if_pos (by omega)] at h1;have e1:=Option.some.inj h1;subst e1;simp only [hGs,List.getElem?_map,List.getElem?_range hq,Option.map_some,Option.some.injEq] at h2;subst h2;refine ⟨hy.1,fun σ=>?_⟩;rw [hy.2];unfold hG;dsimp only;rw [if_pos (by omega)]
 ·rw [if_neg e] at h1;have hi:i<12:=by have:=(List.getElem?_eq_some_iff.1 h1).1;omega
  refine h.2 i b G h1 ?_;rw [←h2];simp only [hGs,List.getElem?_map,List.getElem?_range hi,Option.map_some];congr 1
  funext σ
  unfold hG;have:(i<q+1∧0≤fc (i / 3))↔(i<q∧0≤fc (i / 3)):=by omega
  simp only [this]
theorem hGs_zero (S:ST) (fc:Nat→Int):ByIs S (List.replicate 12 0) (hGs fc 0):=by
 refine ⟨by simp [hGs],fun i b G h1 h2=>?_⟩;rw [List.getElem?_replicate] at h1;split at h1
 ·rename_i hi;cases h1;simp only [hGs,List.getElem?_map,List.getElem?_range hi,Option.map_some,Option.some.injEq] at h2;subst h2;exact ⟨yQE S,fun σ=>by simp [eQB,hG]⟩
 ·cases h1
theorem made_intsE (n i:Nat) (h:i<n):(madeCells #[.int .i64 0] n)[i]?=some (.int .i64 0):=by
 have:=toList_madeCells_one (.int .i64 0) n;rw [←Array.getElem?_toList,this,List.getElem?_replicate,if_pos h]
theorem run_makeE (w:World) (n:Nat) (hn:n≤1000):(Instr.makeSlice 40 (.int .i64 (n:Int)) (.int .i64 (n:Int))).run prog w=.ok (.slice (some ⟨w.heap.size,0,none⟩) n n) (w.alloc (.cells (madeCells #[.int .i64 0] n) 3)):=by
 obtain ⟨i0,hi0,hz0,hz1,hz2⟩:=info_parts info3;have:=run_make (P:=prog) w 40 3 i0 (.int .i64 0) underlying40 hi0 hz0 .i64 .i64 n n (by omega) (by omega) (by rw [hz2];omega) (by omega);rw [this,hz1];simp [Value.cells]
theorem fcol_lt {ts:List uQA} {v:Nat} {p:Nat} (h:fcol ts v=p):∃ t,ts[p]?=some t∧t.isVar=true∧t.num=v:=by
 unfold fcol at h;cases e:ts.findIdx? (isV v) with
 | none=>rw [e] at h;simp only at h;omega
 | some q=>
  rw [e] at h;simp only at h;have:q=p:=by omega
  subst this;obtain ⟨h1,h2,_⟩:=List.findIdx?_eq_some_iff_getElem.1 e;refine ⟨_,List.getElem?_eq_getElem h1,?_⟩;simpa [isV] using h2
theorem fcol_of {ts:List uQA} {t:uQA} (h:t∈ts) (hv:t.isVar=true) {v:Nat} (hn:t.num=v):∃ p:Nat,fcol ts v=p:=by
 unfold fcol;cases e:ts.findIdx? (isV v) with
 | none=>have:=List.findIdx?_eq_none_iff.1 e t h;simp [isV,hv,hn] at this
 | some q=>exact ⟨q,rfl⟩
theorem fcol_neg (ts:List uQA) (v:Nat):fcol ts v<0∨∃ p:Nat,fcol ts v=p:=by
 unfold fcol;cases ts.findIdx? (isV v) with
 | none=>exact .inl (by decide)
 | some q=>exact .inr ⟨q,rfl⟩
end
section
open Go.RowKit
theorem lQB.keepsE {w w':World} {b:Nat} {xs:List Int} {T:List Nat} (h:lQB w b xs) (k:aQA T w w') (hb:b∉T):lQB w' b xs:=h.of_heap (k.block b h.lt hb)
theorem lQB.setE {w:World} {b:Nat} {xs:List Int} (h:lQB w b xs) (i:Nat) (x:Int):lQB (w.setCell ⟨b,i,none⟩ (.int .i64 x)) b (xs.set i x):=by
 obtain ⟨cs,h1,h2⟩:=h;refine ⟨_,h1.setCell i _,fun j y hy=>?_⟩;rw [List.getElem?_set] at hy;by_cases e:i=j
 ·subst e;by_cases hi:i<xs.length
  ·simp only [if_true,hi,Option.some.injEq] at hy;subst hy;have:=h2 i _ (List.getElem?_eq_getElem hi);have hs:i<cs.size:=(Array.getElem?_eq_some_iff.1 this).1;simp [hs]
  ·simp [hi] at hy
 ·rw [if_neg e] at hy;have:=h2 j y hy;rw [Array.getElem?_setIfInBounds,if_neg e];exact this
theorem lQB.frozenE {w:World} {b:Nat} {xs:List Int} (h:lQB w b xs) (i:Nat):w.frozen? ⟨b,i,none⟩=false:=by
 obtain ⟨cs,h1,_⟩:=h;exact h1.frozen i
def HeadB (ts:List uQA) (R:List Nat→Prop) (σ:Int→Bool):Prop:=(∃ τ:Int→Bool,(∀ u:Nat,u<12→0≤fcol ts (u / 3)→τ u=σ (3 * (fcol ts (u / 3)).toNat+u % 3:Nat))∧R (tupF τ 0 4))
def colT (ts:List uQA) (t:uQA):uQA:=if t.isVar then ⟨true,fcol ts t.num.toNat⟩ else t
def HeadC (ts:List uQA) (R:List Nat→Prop) (j:Nat) (σ:Int→Bool):Prop:=HeadB ts R σ∧∀ (p:Nat) (t:uQA),p<j→ts[p]?=some t→numA σ p=tnum σ (colT ts t)
theorem headC_step {ts:List uQA} {R:List Nat→Prop} {j:Nat} {t t':uQA} {σ:Int→Bool} (ht:ts[j]?=some t) (hc:colT ts t=t'):(HeadC ts R j σ∧numA σ j=tnum σ t')↔HeadC ts R (j+1) σ:=by
 constructor
 ·rintro ⟨⟨h1,h2⟩,h3⟩;refine ⟨h1,fun p u hp hu=>?_⟩;by_cases e:p<j
  ·exact h2 p u e hu
  ·have:p=j:=(by omega);subst this;rw [ht] at hu;cases hu;rw [hc];exact h3
 ·exact fun h=>⟨⟨h.1,fun p u hp hu=>h.2 p u (by omega) hu⟩,by rw [←hc];exact h.2 j t (by omega) ht⟩
theorem four_at (a b c d:Int) {v:Nat} (h:v<4):(#[Value.int .i64 a,.int .i64 b,.int .i64 c,.int .i64 d]:Array Value)[v]?=some (.int .i64 ([a,b,c,d].getD v 0)):=by
 match v with
 | 0=>rfl
 | 1=>rfl
 | 2=>rfl
 | 3=>rfl
 | v+4=>omega
theorem aQA.drop {b:Nat} {T:List Nat} {w w':World} (k:aQA (b :: T) w w') (hb:w.heap.size≤b):aQA T w w':=
 ⟨k.os,k.tape,k.output,k.size,fun i hi hn=>k.block i hi (xQA (by omega) hn)⟩
theorem headB_iff {ts:List uQA} {R:List Nat→Prop} {G:Nat} {bys:List Int} {S:ST} {σ:Int→Bool} (hg:GoneIs (fcol ts) 12 G) (hby:ByIs S bys (hGs (fcol ts) 12)):(∃ τ:Int→Bool,(∀ v:Nat,v<12→G.testBit v=false→τ v=sbV S bys σ v)∧R (tupF τ 0 4))↔HeadB ts R σ:=by
 have key:∀ v:Nat,v<12→sbV S bys σ v=hG (fcol ts) 12 v σ:=fun v hv=>hby.val (by simp [hGs,hv]) σ;have hb:∀ v:Nat,v<12→(G.testBit v=false↔0≤fcol ts (v / 3)):=fun v hv=>by
  have:=hg.2 v hv;rw [←Bool.not_eq_true,this];omega
 unfold HeadB;constructor
 ·rintro ⟨τ,h1,h2⟩;refine ⟨τ,fun u hu h0=>?_,h2⟩;rw [h1 u hu ((hb u hu).2 h0),key u hu];unfold hG;rw [if_pos ⟨hu,h0⟩]
 ·rintro ⟨τ,h1,h2⟩;refine ⟨τ,fun u hu h0=>?_,h2⟩;have h0':=(hb u hu).1 h0;rw [h1 u hu h0',key u hu];unfold hG;rw [if_pos ⟨hu,h0'⟩]
theorem heads_calls {w:World} {B:SB} {S:ST} (hE:EngS w B S) {bb:Nat} (hb:BsAt w bb B) {f:Int} (ρ:Int) {g c:Nat} (ts:List uQA) (hg:g∉B.own) (hrow:TmRow w g ts) (htm:∀ t∈ts,TmOk t) (h4:ts.length≤3) {R:List Nat→Prop} (hf:Rep S f 4 R) (hl:S.next+33800000<lim) :
  Calls prog 74 #[.pointer (some ⟨bb,0,none⟩),.int .i64 f,.agg #[.int .i64 ρ,.slice (some ⟨g,0,none⟩) ts.length c]] w (OutB B w S (fun σ=>HeadB ts R σ∧∀ (p:Nat) (t:uQA),ts[p]?=some t→numA σ p=tnum σ (colT ts t)) 33700000):=by
 have hfc:=hide (fun (W:World) (k:aQA [] w W)=>first_calls (c:=c) ρ ts (hrow.keeps k (by simp)) (by omega));have kA:=aQA.alloc [] w (.cells #[.int .i64 ρ,.slice (some ⟨g,0,none⟩) ts.length c] 151);have hA:=cQA.new w #[.int .i64 ρ,.slice (some ⟨g,0,none⟩) ts.length c] 151;have hsA:=dQA w (.cells #[.int .i64 ρ,.slice (some ⟨g,0,none⟩) ts.length c] 151);have Hl:=hide hl;have Hfr:=hide (fun j (hj:w.heap.size≤j)=>hE.sat.fresh hj);have hidx:Hid (∀ v,v<4→[fcol ts 0,fcol ts 1,fcol ts 2,fcol ts 3].getD v 0=fcol ts v):=fun v hv=>by
  match v with
  | 0=>rfl
  | 1=>rfl
  | 2=>rfl
  | 3=>rfl
  | v+4=>omega
 generalize fcol ts 0=F0 at hfc hidx;generalize fcol ts 1=F1 at hfc hidx;generalize fcol ts 2=F2 at hfc hidx;generalize fcol ts 3=F3 at hfc hidx;clear hl;go_enter func74,ntmps74
 go_wp2_with fail
 generalize hWA:w.alloc (.cells #[.int .i64 ρ,.slice (some ⟨g,0,none⟩) ts.length c] 151)=WA at kA hA hsA ⊢;refine (hfc.out _ kA).mono ?_;rintro e W1 ⟨rfl,k1⟩;have kB:=aQA.alloc [] W1 (.cells #[.int .i64 F0,.int .i64 F1,.int .i64 F2,.int .i64 F3] 216);have hB:=cQA.new W1 #[.int .i64 F0,.int .i64 F1,.int .i64 F2,.int .i64 F3] 216;have hsB:=dQA W1 (.cells #[.int .i64 F0,.int .i64 F1,.int .i64 F2,.int .i64 F3] 216);have hAB:=(hA.keeps k1 (by simp)).keeps kB (by simp);have kkB:=(kA.trans k1).trans kB;have hbB:=hb.keeps kkB (by simp);have hEB:=hE.keeps0 kkB;have hcB:=hbB.cell;have hlt1:w.heap.size<W1.heap.size:=by have:=k1.size;omega
 have hvs:=hide (nvars_calls hEB.sat);rw [hEB.n] at hvs;clear hfc hWA hcB;have hcB:=hbB.cell;generalize hWB:W1.alloc (.cells #[.int .i64 F0,.int .i64 F1,.int .i64 F2,.int .i64 F3] 216)=WB at *;have hmk:(Instr.makeSlice 40 (.int .i64 12) (.int .i64 12)).run prog WB=.ok (.slice (some ⟨WB.heap.size,0,none⟩) 12 12) (WB.alloc (.cells (madeCells #[.int .i64 0] 12) 3)):=run_makeE WB 12 (by omega);have hvs:Hid (Calls prog 143 #[.pointer (some ⟨B.b,0,none⟩)] WB fun e w'=>e=.returned (.int .i64 12)∧w' = WB):=hvs;go_wp2_with fail
 refine hvs.out.mono ?_;rintro e W2 ⟨rfl,rfl⟩;rename World=>WB;have kC:=aQA.alloc [] WB (.cells (madeCells #[.int .i64 0] 12) 3);have hC:lQB (WB.alloc (.cells (madeCells #[.int .i64 0] 12) 3)) WB.heap.size (List.replicate 12 0):=by
  refine ⟨_,cQA.new _ _ _,fun i x hx=>?_⟩;rw [List.getElem?_replicate] at hx;split at hx
  ·rename_i hi;cases hx;exact made_intsE _ _ hi
  ·cases hx
 have kk:=kkB.trans kC;have hBC:=hB.keeps kC (by simp);have hAC:=hAB.keeps kC (by simp);have hEC:=hE.keeps0 kk;have hsz:WB.heap.size=W1.heap.size+1:=hsB;clear hvs hA hAB kkB hbB hEB hcB hWB hB hsB kA kB k1 hsA;generalize WB.alloc (.cells (madeCells #[.int .i64 0] 12) 3)=W2 at *;rw [hsz] at hC hmk;have q0:=hBC.cell 0;have q1:=hBC.cell 1;have q2:=hBC.cell 2;have q3:=hBC.cell 3;simp at q0 q1 q2 q3;generalize hy:W1.heap.size=y at *;clear hsz kC;go_wp2_with fail
 clear hmk q0 q1 q2 q3;go_loopw [9,24] (fun x y' wr=>∃ (v G:Nat) (bys:List Int) (S1:ST),x=.int .i64 G∧y' = .int .i64 v∧v≤4∧EngS wr B S1∧aQA ((y+1) :: B.own) W2 wr∧Ext S S1∧S1.next≤S.next+3 * v∧GoneIs (fcol ts) (3 * v) G∧ByIs S1 bys (hGs (fcol ts) (3 * v))∧lQB wr (y+1) bys) (fun _ y' _=>((4:Int) - intOf y').toNat)
 case atStart=>exact ⟨0,0,_,S,rfl,rfl,by omega,hEC,aQA.refl _ _,Ext.refl S,by omega,⟨by decide,fun u hu=>by omega⟩,hGs_zero S _,hC⟩
 case round=>
  obtain ⟨v,G,bys,S1,rfl,rfl,hv,hEr,hk,hx,hn,hG,hby,hrr⟩:=hrel;rename World=>wo;have Hn:=hide hn;clear hn;by_cases hv4:v<4
  ·have hvI:(v:Int)<4:=(by omega);have hix:=fun w=>run_index4 F0 F1 F2 F3 v hv4 w;rw [hidx.out v hv4] at hix;have hq3:∀ i,i<3→(3 * v+i) / 3=v∧(3 * v+i) % 3=i:=fun i hi=>by omega
   have Hq3:=hide hq3;have hneg:=fcol_neg ts v;have HneG:=hide hneg;clear hq3 hneg;generalize hFv:fcol ts v=Fv at hix HneG;have HFv:=hide hFv;clear hFv;go_wp2_with fail
   go_loopw [9,28] (fun x y' wr=>∃ (i G:Nat) (bys:List Int) (S2:ST),x=.int .i64 G∧y' = .int .i64 i∧i≤3∧EngS wr B S2∧aQA ((y+1) :: B.own) W2 wr∧Ext S S2∧S2.next≤S.next+(3 * v+i)∧Hid (GoneIs (fcol ts) (3 * v+i) G)∧ByIs S2 bys (hGs (fcol ts) (3 * v+i))∧lQB wr (y+1) bys) (fun _ y' _=>((3:Int) - intOf y').toNat)
   case atStart=>exact ⟨0,G,bys,S1,rfl,rfl,by omega,hEr,hk,hx,by have:=Hn.out;omega,hG,hby,hrr⟩
   case round=>
    clear hEr hk hx hG hby hrr Hn;obtain ⟨i,G,bys,S2,rfl,rfl,hi,hEr,hk,hx,hn,hG,hby,hrr⟩:=hrel;have Hn:=hide hn;clear hn;by_cases hi3:i<3
    ·have hiI:(i:Int)<3:=(by omega);obtain ⟨hq1,hq2⟩:=Hq3.out i hi3;obtain ⟨q,hq⟩:∃ q,3 * v+i=q:=⟨_,rfl⟩;have hq12:q<12:=(by omega);have hvc:=hide (fun W=>rQD W v i (by omega) (by omega));rw [hq] at hq1 hq2 hG hby hvc;have Hq:=hide hq;have Hq1:=hide hq1;have Hq2:=hide hq2;have Hfq:Hid (fcol ts (q / 3)=Fv):=by rw [hq1];exact HFv.out
     rcases HneG.out with hneg | ⟨p,hp⟩
     ·have hgn:=hide (hG.out.add (by rw [Hfq.out];exact hneg));have hgs:=hGs_skip (fc:=fcol ts) (q:=q) (by rw [Hfq.out];exact hneg);have Hby:Hid (ByIs S2 bys (hGs (fcol ts) (q+1))):=by rw [hgs];exact hby
      have hor:=or_pow hG.out.1 hq12;have hpw:=pow_i hq12;clear hq hq1 hq2 hgs hby hG;generalize 2 ^ q=A at hor hpw hgn;generalize G+A=G2 at hor hgn;go_wp2_with fail
      refine (hvc.out _).mono ?_;rintro e W5 ⟨rfl,rfl⟩;go_wp2_with fail
      go_roundw
      ·exact ⟨i+1,G2,bys,S2,rfl,by simp,by omega,hEr,hk,hx,by have:=Hn.out;push_cast;omega,by have:=hgn.out;rw [←Hq.out] at this;exact this,by have:=Hby.out;rw [←Hq.out] at this;exact this,hrr⟩
      ·simp only [intOf];omega
     ·subst hp;obtain ⟨tp,htp,_⟩:=fcol_lt HFv.out;have hp3:p<3:=by have:=(List.getElem?_eq_some_iff.1 htp).1;omega
      have hdn:decide ((p:Int)<0)=false:=(by simp);have hgn:=hide (hG.out.skip (by rw [Hfq.out];omega));have hvp:=hide (fun W=>rQD W p i (by omega) (by omega));have hvar:=hide (fun (W:World) (k:aQA [] wr W)=>var_E (hEr.keeps0 k) (3 * p+i) (by omega) (by have:=Hl.out;have:=Hn.out;omega));have hbr:=hb.keeps ((kk.mono (by simp)).trans_new hk (fun j hj=>.inl hj)) (by
       intro hm;rcases List.mem_cons.1 hm with e | hm
       ·have:=hb.lt;omega
       ·exact hb.no hm)
      have g0:=hbr.cell;have hqI:(q:Int)<12:=(by omega);have hbl:bys.length=12:=by rw [hby.1];simp [hGs]
      obtain ⟨zz,hzz⟩:∃ z,bys[q]?=some z:=⟨bys[q]'(by omega),List.getElem?_eq_getElem _⟩;have hgb:(y+1)∉B.own:=Hfr.out _ (by omega);have Hbl:=hide hbl;have Hzz:=hide hzz;have Hpi:=hide (rfl:3 * p+i=3 * p+i);clear hq hq1 hq2 hG htp hbl hzz;generalize hr:3 * p+i=rr at hvp hvar Hpi;have Hr:=hide hr;clear hr;have hbny:bb∉[y+1]:=by have:=hb.lt;simp;omega
      have h7:=hide (fun (W7:World) (k3:aQA B.own wr.drew W7)=>And.intro ((hbr.keeps (aQA.drew [] wr) (by simp)).own k3).cell (And.intro (((hrr.keepsE (aQA.drew [] wr) (by simp)).keepsE k3 hgb).cell Hzz.out) (And.intro (((hrr.keepsE (aQA.drew [] wr) (by simp)).keepsE k3 hgb).frozenE q) (fun v=>(((hbr.keeps (aQA.drew [] wr) (by simp)).own k3).keeps (aQA.setCell W7 ⟨y+1,q,none⟩ v) hbny).cell))));go_wp2_with fail
      go_region_held3 (fun w'=>w'.cell? ⟨bb,4,none⟩=some (.pointer (some ⟨B.b,0,none⟩))) (first | exact g0 | exact a0 | exact a3 _)
       (first
       | (go_at_call_of 144 (Value.int IntKind.i64 (v:Int))
          refine (hvc.out _).mono ?_;rintro e W5 ⟨rfl,rfl⟩)
       | (go_at_call_of 144 (Value.int IntKind.i64 (p:Int))
          refine (hvp.out _).mono ?_;rintro e W6 ⟨rfl,rfl⟩)
       | (go_at_call 145
          refine (hvar.out _ (aQA.drew [] _)).mono ?_;rintro e W7 ⟨r1,S3,rfl,hE3,k3,x3,n3,hr3⟩;obtain ⟨a0,a1,a2,a3⟩:=h7.out W7 k3))
      all_goals
       have hrw:=(hrr.keepsE (aQA.drew [] wr) (by simp)).keepsE k3 hgb;have Hst:=hide (hrw.setE q r1);have kS:=aQA.setCell W7 ⟨y+1,q,none⟩ (.int .i64 r1);have hES:=hE3.keeps kS (fun j hj hm=>hgb (by simp only [List.mem_singleton] at hm;rw [←hm];exact hj));clear hrw;go_wp2_with fail
       go_roundw
       ·refine ⟨i+1,G,bys.set q r1,S3,rfl,by simp,by omega,hES,((hk.trans ((aQA.drew [] wr).mono (by simp))).trans (k3.mono (fun j hj=>List.mem_cons_of_mem _ hj))).trans (kS.mono (by simp)),hx.trans x3,by have:=Hn.out;push_cast;omega,by have:=hgn.out;rw [←Hq.out] at this;exact this,?_,Hst.out⟩;have:=(hby.ext x3 hEr.wf hE3.wf).put hq12 (by rw [Hfq.out];omega) (by rw [Hfq.out,Int.toNat_natCast,Hq2.out,Hr.out];exact hr3);rw [←Hq.out] at this ⊢;exact this
       ·simp only [intOf];omega
    ·have hiI:¬ (i:Int)<3:=(by omega);have e:i=3:=(by omega);subst e;go_wp2_with fail
     go_roundw
     ·exact ⟨v+1,G,bys,S2,rfl,by simp,by omega,hEr,hk,hx,by have:=Hn.out;push_cast;omega,hG.out,hby,hrr⟩
     ·simp only [intOf];omega
  ·have hvI:¬ (v:Int)<4:=(by omega);have e:v=4:=(by omega);subst e;have hG12:G<4096:=hG.1;have hgb:(y+1)∉B.own:=Hfr.out _ (by omega);have kw:aQA ((y+1) :: B.own) w wo:=(kk.mono (by simp)).trans hk;have hyb:bb∉(y+1) :: B.own:=by
    intro hm;rcases List.mem_cons.1 hm with e | hm
    ·have:=hb.lt;omega
    ·exact hb.no hm
   have hbr:=hb.keeps kw hyb;have g0:=hbr.cell;have hbl:bys.length=12:=by rw [hby.1];simp [hGs]
   have hfr:RepB S1 f (fun σ=>R (tupF σ 0 4)):=RepB.ext ⟨hf.1,hf.2⟩ hx hE.wf hEr.wf;have h1:=hide (fun (W:World) (k:aQA [] wo W)=>exists_E (hEr.keeps0 k) (X:=G) hfr hG12 (by have:=Hl.out;have:=Hn.out;omega));have h2:=hide (fun (W:World) (S3:ST) (r1:Int) (hE3:EngS W B S3) (k3:aQA B.own wo.drew W) (x3:Ext S1 S3) (n3:S3.next≤S1.next+16773120) (ok3:S3.ok r1)=>subst_E (ct:=12) hE3 (k:=12) ok3 (fun u u0 u1=>by rw [hE3.n] at u1;omega) ((hrr.keepsE (aQA.drew [] wo) (by simp)).keepsE k3 hgb) hgb (by omega) (fun b hb'=>x3.ok (hby.ok b hb')) (by have:=Hl.out;have:=Hn.out;omega));rw [hbl] at h2;have h7:=hide (fun (W7:World) (k3:aQA B.own wo.drew W7)=>((hbr.keeps (aQA.drew [] wo) (by simp)).own k3).cell);have HG:=hide hG;have Hby:=hide hby;have Hbl:=hide hbl;clear hG hby hbl hG12;go_wp2_with fail
   go_region_held3 (fun w'=>w'.cell? ⟨bb,4,none⟩=some (.pointer (some ⟨B.b,0,none⟩))) (first | exact g0 | exact a0 | exact a1)
    (first
    | (go_at_call 147
       refine (h1.out _ (aQA.drew [] _)).mono ?_;rintro e W5 ⟨r1,S3,rfl,hE3,k3,x3,n3,hr3⟩;have a0:=h7.out W5 k3)
    | (go_at_call 146
       refine (h2.out _ S3 r1 hE3 k3 x3 n3 hr3.1).mono ?_;rintro e W6 ⟨r2,S4,rfl,hE4,k4,x4,n4,hr4⟩;have a1:=h7.out W6 (k3.trans k4)))
   all_goals
    have kW:aQA ((y+1) :: B.own) W2 W6:=(hk.trans ((aQA.drew [] wo).mono (by simp))).trans ((k3.trans k4).mono (fun j hj=>List.mem_cons_of_mem _ hj));have hA6:=hAC.keeps kW (xQA (by omega) (Hfr.out _ (Nat.le_refl _)));have hB6:=hBC.keeps kW (xQA (by omega) (Hfr.out _ (by omega)));have kw6:aQA ((y+1) :: B.own) w W6:=(kk.mono (by simp)).trans kW;have hr6:=hrow.keeps kw6 (xQA (by have:=hrow.1;omega) hg);have hb6:=hb.keeps kw6 hyb;have hX:=hide (hx.trans (x3.trans x4));have hN:=hide (show S4.next≤S.next+33542157 by have:=Hn.out;omega);have hR4:RepB S4 r2 (HeadB ts R):=⟨hr4.1,fun σ=>by
     rw [hr4.2];show S3.den r1 (sbV S3 bys σ)=true↔HeadB ts R σ;rw [hr3.2];exact headB_iff HG.out (Hby.out.ext x3 hEr.wf hE3.wf)⟩
    have s1:=hA6.cell 1;simp at s1;clear h1 h2 h7 HG Hby Hbl hr3 hr4 hfr hx x3 x4 Hn n3 n4 hbr g0 a0 a1 hrr hC hEC hAC hBC hk k3 k4 hEr hE3;go_wp2_with fail
    go_loopw [1,70] (fun x y' wr=>∃ (j:Nat) (r:Int) (S5:ST),x=.int .i64 r∧y' = .int .i64 j∧j≤ts.length∧EngS wr B S5∧aQA B.own W6 wr∧Ext S4 S5∧S5.next≤S4.next+40956 * j∧RepB S5 r (HeadC ts R j)) (fun _ y' _=>((ts.length:Int) - intOf y').toNat)
    case atStart=>exact ⟨0,r2,S4,rfl,rfl,by omega,hE4,aQA.refl _ _,Ext.refl S4,by omega,hR4.1,fun σ=>by rw [hR4.2];simp [HeadC]⟩
    case round=>
     obtain ⟨j,r,S5,rfl,rfl,hj,hEr,hkj,hxj,hn5,hrj⟩:=hrel;have Hn5:=hide hn5;clear hn5 s1;have hbr:=hb6.own hkj;by_cases hjl:j<ts.length
     ·have hjI:(j:Int)<ts.length:=(by omega);have hrr:=hr6.keeps hkj hg;have hBr:=hB6.keeps hkj (Hfr.out _ (by omega));obtain ⟨t,ht⟩:∃ t,ts[j]?=some t:=⟨_,List.getElem?_eq_getElem hjl⟩;obtain ⟨g1,g2⟩:=hrr.2 j t ht;have hto:=htm t (List.mem_of_getElem? ht);have Htj:=hide ht;have htm':=List.mem_of_getElem? ht;obtain ⟨b,m⟩:=t;obtain ⟨v,rfl⟩:∃ v:Nat,m=v:=Int.eq_ofNat_of_zero_le hto.1;simp only at g1 g2;cases b with
      | true=>
       have hv4:v<4:=by have:=hto.2.2 rfl;simp only at this;omega
       have hvI:(v:Int)<4:=(by omega);obtain ⟨p,hp⟩:=fcol_of htm' rfl rfl;obtain ⟨tp,htp,_⟩:=fcol_lt hp;have hp3:p<3:=by have:=(List.getElem?_eq_some_iff.1 htp).1;omega
       have hcv:wr.cell? ⟨y,v,none⟩=some (.int .i64 (fcol ts v)):=by
        rw [hBr.cell,←hidx.out v hv4];exact four_at F0 F1 F2 F3 hv4
       have hcv2:(wr.alloc (.cells #[.bool true,.int .i64 (v:Int)] 220)).cell? ⟨y,v,none⟩=some (.int .i64 (fcol ts v)):=by rw [cQF (aQA.alloc [] wr _) hBr.lt (by simp)];exact hcv
       have Hct:Hid (colT ts ⟨true,(v:Int)⟩=⟨true,fcol ts v⟩):=(by simp [colT,Hid]);have Hok:Hid (TmOk ⟨true,fcol ts v⟩):=by rw [hp];exact ⟨by simp only;omega,by simp only;omega,fun _=>by simp only;omega⟩
       clear hp htp ht hto htm';generalize hFv:fcol ts v=Fv at hcv hcv2 Hct Hok;clear hFv;have kT:=aQA.alloc [] wr (.cells #[.bool true,.int .i64 Fv] 220);have hT:=cQA.new wr #[.bool true,.int .i64 Fv] 220;have hzo:wr.heap.size∉B.own:=hEr.sat.fresh (Nat.le_refl _);have hbT:=hbr.keeps kT (by simp);have heq:=hide (vQL (hEr.keeps0 (kT.trans (aQA.drew [] _))) (hbT.keeps (aQA.drew [] _) (by simp)) j (by omega) ⟨true,Fv⟩ Hok.out (by have:=Hl.out;have:=hN.out;have:=Hn5.out;omega));simp only [tmV] at heq;generalize hWT:wr.alloc (.cells #[.bool true,.int .i64 Fv] 220)=WT at *;have e0:=hbT.cell;have e1:=hT.cell 0;have e2:=hT.cell 1;simp at e1 e2;go_wp2_with fail
       have h7:=hide (fun (W7:World) (k:aQA B.own WT.drew W7)=>And.intro ((hbT.keeps (aQA.drew [] _) (by simp)).own k).cell (And.intro (((hT.keeps (aQA.drew [] _) (by simp)).keeps k hzo).cell 0) (((hT.keeps (aQA.drew [] _) (by simp)).keeps k hzo).cell 1)));go_region_held3 (fun w'=>w'.cell? ⟨bb,4,none⟩=some (.pointer (some ⟨B.b,0,none⟩))∧w'.cell? ⟨wr.heap.size,0,none⟩=some (.bool true)∧w'.cell? ⟨wr.heap.size,1,none⟩=some (.int .i64 Fv)) (first | exact ⟨e0,e1,e2⟩ | exact a7 | exact a8)
        (first
        | (go_at_call 149
           refine heq.out.mono ?_;rintro e W7 ⟨r7,S7,rfl,hE7,k7,x7,n7,hr7⟩;have a7:=h7.out W7 k7)
        | (go_at_call 148
           refine (and_E hE7 (hrj.ext x7 hEr.wf hE7.wf) hr7 (by have:=Hl.out;have:=hN.out;have:=Hn5.out;omega)).mono ?_;rintro e W8 ⟨r8,S8,rfl,hE8,k8,x8,n8,hr8⟩;have a8:=h7.out W8 (k7.trans k8)))
       all_goals
        go_wp2_with fail
        go_roundw
        ·refine ⟨j+1,r8,S8,rfl,by simp,by omega,hE8,(hkj.trans (((kT.trans (aQA.drew [] _)).mono (by simp)).trans k7)).trans k8,hxj.trans (x7.trans x8),by have:=Hn5.out;push_cast;omega,hr8.1,fun σ=>?_⟩;rw [hr8.2];exact headC_step Htj.out Hct.out
        ·simp only [intOf];omega
      | false=>
       have Hct:Hid (colT ts ⟨false,(v:Int)⟩=⟨false,(v:Int)⟩):=(by simp [colT,Hid]);have Hok:Hid (TmOk ⟨false,(v:Int)⟩):=hto;clear ht hto htm';have kT:=aQA.alloc [] wr (.cells #[.bool false,.int .i64 (v:Int)] 220);have hT:=cQA.new wr #[.bool false,.int .i64 (v:Int)] 220;have hzo:wr.heap.size∉B.own:=hEr.sat.fresh (Nat.le_refl _);have hbT:=hbr.keeps kT (by simp);have heq:=hide (vQL (hEr.keeps0 (kT.trans (aQA.drew [] _))) (hbT.keeps (aQA.drew [] _) (by simp)) j (by omega) ⟨false,(v:Int)⟩ Hok.out (by have:=Hl.out;have:=hN.out;have:=Hn5.out;omega));simp only [tmV] at heq;generalize hWT:wr.alloc (.cells #[.bool false,.int .i64 (v:Int)] 220)=WT at *;have e0:=hbT.cell;have e1:=hT.cell 0;have e2:=hT.cell 1;simp at e1 e2;go_wp2_with fail
       have h7:=hide (fun (W7:World) (k:aQA B.own WT.drew W7)=>And.intro ((hbT.keeps (aQA.drew [] _) (by simp)).own k).cell (And.intro (((hT.keeps (aQA.drew [] _) (by simp)).keeps k hzo).cell 0) (((hT.keeps (aQA.drew [] _) (by simp)).keeps k hzo).cell 1)));go_region_held3 (fun w'=>w'.cell? ⟨bb,4,none⟩=some (.pointer (some ⟨B.b,0,none⟩))∧w'.cell? ⟨wr.heap.size,0,none⟩=some (.bool false)∧w'.cell? ⟨wr.heap.size,1,none⟩=some (.int .i64 (v:Int))) (first | exact ⟨e0,e1,e2⟩ | exact a7 | exact a8)
        (first
        | (go_at_call 149
           refine heq.out.mono ?_;rintro e W7 ⟨r7,S7,rfl,hE7,k7,x7,n7,hr7⟩;have a7:=h7.out W7 k7)
        | (go_at_call 148
           refine (and_E hE7 (hrj.ext x7 hEr.wf hE7.wf) hr7 (by have:=Hl.out;have:=hN.out;have:=Hn5.out;omega)).mono ?_;rintro e W8 ⟨r8,S8,rfl,hE8,k8,x8,n8,hr8⟩;have a8:=h7.out W8 (k7.trans k8)))
       all_goals
        go_wp2_with fail
        go_roundw
        ·refine ⟨j+1,r8,S8,rfl,by simp,by omega,hE8,(hkj.trans (((kT.trans (aQA.drew [] _)).mono (by simp)).trans k7)).trans k8,hxj.trans (x7.trans x8),by have:=Hn5.out;push_cast;omega,hr8.1,fun σ=>?_⟩;rw [hr8.2];exact headC_step Htj.out Hct.out
        ·simp only [intOf];omega
     ·have hjI:¬ (j:Int)<ts.length:=(by omega);have e:j=ts.length:=(by omega);subst e;go_wp2_with fail
      go_ret
      refine ⟨r,S5,rfl,hEr,?_,hX.out.trans hxj,by have:=hN.out;have:=Hn5.out;omega,hrj.1,fun σ=>?_⟩
      ·exact (kw6.trans (hkj.mono (fun q hq=>List.mem_cons_of_mem _ hq))).drop (by omega)
      ·rw [hrj.2];exact ⟨fun h=>⟨h.1,fun p t hp=>h.2 p t (List.getElem?_eq_some_iff.1 hp).1 hp⟩,fun h=>⟨h.1,fun p t _ hp=>h.2 p t hp⟩⟩
end
section
open Go.RowKit
def tvR (ρ:List Nat) (t:uQA):Nat:=if t.isVar then ρ.getD t.num.toNat 0 else t.num.toNat
theorem OutB.iff {B:SB} {w:World} {S:ST} {F G:(Int→Bool)→Prop} {c:Int} {e:Ending} {w':World} (h:OutB B w S F c e w') (hi:∀ σ,F σ↔G σ):OutB B w S G c e w':=by
 obtain ⟨r,S',h1,h2,h3,h4,h5,h6,h7⟩:=h;exact ⟨r,S',h1,h2,h3,h4,h5,h6,fun σ=>by rw [h7,hi]⟩
theorem numA_lt (σ:Int→Bool) (p:Nat):numA σ p<8:=by
 unfold numA;cases σ (3 * p:Nat) <;> cases σ (3 * p+1:Nat) <;> cases σ (3 * p+2:Nat) <;> decide
theorem tupF_len (σ:Int→Bool):∀ (c p:Nat),(tupF σ p c).length=c
 | 0,_=>rfl
 | c+1,p=>by simp [tupF,tupF_len σ c (p+1)]
theorem tupF_at (σ:Int→Bool):∀ (c p j:Nat),j<c→(tupF σ p c)[j]?=some (numA σ (p+j))
 | 0,_,_,h=>by omega
 | c+1,p,0,_=>rfl
 | c+1,p,j+1,h=>by simp only [tupF,List.getElem?_cons_succ];rw [tupF_at σ c (p+1) j (by omega)];congr 2;omega
theorem tupF_get (σ:Int→Bool) {c j:Nat} (h:j<c):(tupF σ 0 c).getD j 0=numA σ j:=by
 rw [List.getD_eq_getElem?_getD,tupF_at σ c 0 j h,Nat.zero_add];rfl
theorem tupF_mem (σ:Int→Bool):∀ (c p:Nat),tupF σ p c∈alls c
 | 0,_=>by simp [tupF,alls]
 | c+1,p=>by
  simp only [tupF,alls,List.mem_flatMap,List.mem_range,List.mem_map];exact ⟨_,numA_lt σ p,_,tupF_mem σ c (p+1),rfl⟩
theorem alls_tup {c:Nat} {l:List Nat} (h:l∈alls c):∃ σ,tupF σ 0 c=l:=by
 have:=asgs_tups c 0;rw [←this] at h;obtain ⟨y,_,rfl⟩:=List.mem_map.1 h;exact ⟨_,rfl⟩
theorem pQG {c:Nat} {l:List Nat}:l∈alls c↔l.length=c∧∀ x∈l,x<8:=by
 induction c generalizing l with
 | zero=>simp only [alls,List.mem_singleton];constructor
         ·rintro rfl;simp
         ·rintro ⟨h,_⟩;exact List.eq_nil_of_length_eq_zero h
 | succ c ih=>
  simp only [alls,List.mem_flatMap,List.mem_range,List.mem_map];constructor
  ·rintro ⟨d,hd,m,hm,rfl⟩;obtain ⟨h1,h2⟩:=ih.1 hm;refine ⟨by simp [h1],fun x hx=>?_⟩;rcases List.mem_cons.1 hx with rfl | hx
   ·exact hd
   ·exact h2 x hx
  ·rintro ⟨h1,h2⟩;cases l with
   | nil=>simp at h1
   | cons d m=>exact ⟨d,h2 d (by simp),m,ih.2 ⟨by simpa using h1,fun x hx=>h2 x (List.mem_cons_of_mem _ hx)⟩,rfl⟩
theorem tnum_tv (σ:Int→Bool) {t:uQA} (ht:TmOk t):tnum σ t=tvR (tupF σ 0 4) t:=by
 unfold tnum tvR;obtain ⟨h0,_,h4⟩:=ht;cases hv:t.isVar with
 | true=>simp only [if_true];rw [tupF_get σ (by have:=h4 hv;omega)]
 | false=>rfl
theorem tnum_map (σ:Int→Bool) {ts:List uQA} (ht:∀ t∈ts,TmOk t):ts.map (tnum σ)=ts.map (tvR (tupF σ 0 4)):=List.map_congr_left fun t h=>tnum_tv σ (ht t h)
theorem heads_iff {ts:List uQA} {R:List Nat→Prop} (htm:∀ t∈ts,TmOk t) (σ:Int→Bool):(HeadB ts R σ∧∀ (p:Nat) (t:uQA),ts[p]?=some t→numA σ p=tnum σ (colT ts t))↔∃ ρ,ρ∈alls 4∧R ρ∧ts.map (tvR ρ)=tupF σ 0 ts.length:=by
 have hnum:∀ (τ:Int→Bool) (v:Nat),v<4→(tupF τ 0 4).getD v 0=numA τ v:=fun τ v hv=>tupF_get τ hv;constructor
 ·rintro ⟨⟨τ,h1,h2⟩,h3⟩;refine ⟨tupF τ 0 4,tupF_mem τ 4 0,h2,?_⟩;apply List.ext_getElem?;intro p;by_cases hp:p<ts.length
  ·obtain ⟨t,ht⟩:∃ t,ts[p]?=some t:=⟨_,List.getElem?_eq_getElem hp⟩;have hm:=List.mem_of_getElem? ht;have hto:=htm t hm;rw [List.getElem?_map,ht,tupF_at σ _ 0 p hp,Nat.zero_add,Option.map_some,h3 p t ht];congr 1
   unfold tvR colT tnum;cases hv:t.isVar with
   | false=>simp [hv]
   | true=>
    simp only [if_true];have hv4:=hto.2.2 hv;obtain ⟨v,hvn⟩:=Int.eq_ofNat_of_zero_le hto.1;rw [hvn,Int.toNat_natCast];obtain ⟨q,hq⟩:=fcol_of hm hv hvn;rw [hq,Int.toNat_natCast,hnum τ v (by omega)];unfold numA;have key:∀ i,i<3→τ (3 * v+i:Nat)=σ (3 * q+i:Nat):=fun i hi=>by
     have e1:(3 * v+i) / 3=v:=(by omega);have e2:(3 * v+i) % 3=i:=(by omega);have:=h1 (3 * v+i) (by omega) (by rw [e1,hq];omega);rw [e1,e2,hq,Int.toNat_natCast] at this;exact this
    have k0:=key 0 (by omega);simp only [Nat.add_zero] at k0;rw [k0,key 1 (by omega),key 2 (by omega)]
  ·rw [List.getElem?_eq_none (by simp;omega),List.getElem?_eq_none (by rw [tupF_len];omega)]
 ·rintro ⟨ρ,h1,h2,h3⟩;obtain ⟨τ,rfl⟩:=alls_tup h1;have col:∀ (p:Nat) (t:uQA),ts[p]?=some t→numA σ p=tvR (tupF τ 0 4) t:=fun p t ht=>by
   have hp:=(List.getElem?_eq_some_iff.1 ht).1;have:=congrArg (·[p]?) h3;simp only [List.getElem?_map,ht,Option.map_some] at this;rw [tupF_at σ _ 0 p hp,Nat.zero_add] at this;exact (Option.some.inj this).symm
  have colv:∀ (v q:Nat),v<4→fcol ts v=q→numA σ q=numA τ v:=fun v q hv hq=>by
   obtain ⟨t,ht,htv,htn⟩:=fcol_lt hq;rw [col q t ht];unfold tvR;rw [if_pos htv,htn,Int.toNat_natCast,hnum τ v hv]
  refine ⟨⟨τ,fun u hu h0=>?_,h2⟩,fun p t ht=>?_⟩
  ·obtain ⟨q,hq⟩:=Int.eq_ofNat_of_zero_le h0;have:=colv (u / 3) q (by omega) hq;unfold numA at this;obtain ⟨b0,b1,b2⟩:=num_eq.1 this;rw [hq,Int.toNat_natCast];have e:u=3 * (u / 3)+u % 3:=(by omega);have h3:u % 3<3:=(by omega);generalize u / 3=v at *;generalize u % 3=i at *;subst e;match i with
   | 0=>exact b0.symm
   | 1=>exact b1.symm
   | 2=>exact b2.symm
   | i+3=>omega
  ·rw [col p t ht];have hm:=List.mem_of_getElem? ht;have hto:=htm t hm;unfold tvR colT tnum;cases hv:t.isVar with
   | false=>simp [hv]
   | true=>
    simp only [if_true];have hv4:=hto.2.2 hv;obtain ⟨v,hvn⟩:=Int.eq_ofNat_of_zero_le hto.1;rw [hvn,Int.toNat_natCast];obtain ⟨q,hq⟩:=fcol_of hm hv hvn;rw [hq,Int.toNat_natCast,hnum τ v (by omega),colv v q (by omega) hq]
section
variable {w:World} {B:SB} {S:ST} {bb g c:Nat} {f ρ:Int} {ts:List uQA} {R:List Nat→Prop}
theorem where_R (hE:EngS w B S) (hb:BsAt w bb B) (hg:g∉B.own) (hrow:TmRow w g ts) (htm:∀ t∈ts,TmOk t) (h1:0<ts.length) (h4:ts.length≤4) (hf:Rep S f ts.length R) (hl:S.next+16769100<lim) :
  Calls prog 262 #[.pointer (some ⟨bb,0,none⟩),.int .i64 f,.agg #[.int .i64 ρ,.slice (some ⟨g,0,none⟩) ts.length c]] w (OutB B w S (fun σ=>R (ts.map (tvR (tupF σ 0 4)))) 16769037):=
 (where_calls hE hb ρ ts hg hrow htm h1 h4 hf hl).mono fun _ _ h=>h.iff fun σ=>by rw [tnum_map σ htm]
theorem heads_R (hE:EngS w B S) (hb:BsAt w bb B) (hg:g∉B.own) (hrow:TmRow w g ts) (htm:∀ t∈ts,TmOk t) (h4:ts.length≤3) (hf:Rep S f 4 R) (hl:S.next+33800000<lim) :
  Calls prog 74 #[.pointer (some ⟨bb,0,none⟩),.int .i64 f,.agg #[.int .i64 ρ,.slice (some ⟨g,0,none⟩) ts.length c]] w (OutB B w S (fun σ=>∃ ρ,ρ∈alls 4∧R ρ∧ts.map (tvR ρ)=tupF σ 0 ts.length) 33700000):=
 (heads_calls hE hb ρ ts hg hrow htm h4 hf hl).mono fun _ _ h=>h.iff fun σ=>heads_iff htm σ
end
end
section
open Go.RowKit
def r3 (d:Nat):Nat:=4 * (d % 2)+2 * (d / 2 % 2)+d / 4 % 2
def asnF:List Nat→Nat→Nat
 | [],_=>0
 | d :: l,p=>asnF l (p+1)+r3 d * 2 ^ (3 * p)
def asn (l:List Nat):Nat:=asnF l 0
theorem r3_lt (d:Nat):r3 d<8:=by unfold r3;omega
theorem r3_bits:∀ d,d<8→4 * ((r3 d).testBit 0).toNat+2 * ((r3 d).testBit 1).toNat+((r3 d).testBit 2).toNat=d:=by decide
theorem asnF_mul:∀ (l:List Nat) (p:Nat),∃ z,asnF l p=z * 2 ^ (3 * p)
 | [],_=>⟨0,by simp [asnF]⟩
 | d :: l,p=>by
  obtain ⟨z,hz⟩:=asnF_mul l (p+1);refine ⟨z * 8+r3 d,?_⟩;simp only [asnF];rw [hz,show 3 * (p+1)=3 * p+3 by omega,Nat.pow_add,Nat.add_mul,Nat.mul_assoc,Nat.mul_comm (2 ^ (3 * p)) (2 ^ 3),show (2:Nat) ^ 3=8 from rfl]
theorem asn_bit (d:Nat) (l:List Nat) (p v:Nat) (h:3 * p≤v):(asnF (d :: l) p).testBit v=if v<3 * p+3 then (r3 d).testBit (v - 3 * p) else (asnF l (p+1)).testBit v:=by
 obtain ⟨z,hz⟩:=asnF_mul l (p+1);have:=bit_over z (r3 d) (3 * p) 3 v (r3_lt d);rw [show 3 * p+3=3 * (p+1) by omega] at this;simp only [asnF];rw [hz,this,if_neg (by omega),show 3 * (p+1)=3 * p+3 by omega]
theorem iQJ:∀ {c:Nat} {l:List Nat} (p:Nat),l∈alls c→tupF (asg (asnF l p:Nat)) p c=l
 | 0,l,p,h=>by simp [alls] at h;subst h;rfl
 | c+1,l,p,h=>by
  simp only [alls,List.mem_flatMap,List.mem_range,List.mem_map] at h;obtain ⟨d,hd,m,hm,rfl⟩:=h;have hb:∀ v:Nat,3 * p≤v→asg ((asnF (d :: m) p:Nat):Int) (v:Int)=if v<3 * p+3 then (r3 d).testBit (v - 3 * p) else asg ((asnF m (p+1):Nat):Int) (v:Int):=fun v hv=>by
   show bitB _ _=if _ then _ else bitB _ _;rw [bitN,bitN,asn_bit d m p v hv]
  simp only [tupF];congr 1
  ·unfold numA;rw [hb _ (by omega),hb _ (by omega),hb _ (by omega),if_pos (by omega),if_pos (by omega),if_pos (by omega),Nat.sub_self,show 3 * p+1 - 3 * p=1 by omega,show 3 * p+2 - 3 * p=2 by omega];exact r3_bits d hd
  ·refine (kQK c (p+1) fun v h1 h2=>?_).trans (iQJ (p+1) hm);rw [hb v (by omega),if_neg (by omega)]
theorem asn_inj {c:Nat} {l m:List Nat} (hl:l∈alls c) (hm:m∈alls c) (h:asn l=asn m):l=m:=by
 have h1:=iQJ 0 hl;have h2:=iQJ 0 hm;unfold asn at h;rw [h,h2] at h1;exact h1.symm
theorem asgs_asn:∀ (c p:Nat),asgs (3 * c) (3 * p)=(alls c).map (asnF · p)
 | 0,p=>by simp [asgs,alls,asnF]
 | c+1,p=>by
  have ih:=asgs_asn c (p+1);rw [show 3 * (c+1)=3 * c+1+1+1 by omega];have e3:3 * p+1+1+1=3 * (p+1):=by omega
  have hp1:2 ^ (3 * p+1)=2 * 2 ^ (3 * p):=by rw [Nat.pow_succ,Nat.mul_comm]
  have hp2:2 ^ (3 * p+1+1)=4 * 2 ^ (3 * p):=by rw [Nat.pow_succ,Nat.pow_succ];omega
  have e5:∀ q:Nat,4 * q+q=5 * q:=fun q=>by omega
  have e3':∀ q:Nat,2 * q+q=3 * q:=fun q=>by omega
  have e7:∀ q:Nat,6 * q+q=7 * q:=fun q=>by omega
  simp only [asgs,e3,ih,hp1,hp2,List.map_append,List.map_map,List.append_assoc];simp [alls,List.range_succ,asnF,r3,Function.comp_def,Nat.add_assoc,←Nat.add_mul,e5,e3',e7]
theorem trues_rep {S:ST} {f:Int} {c:Nat} {R:List Nat→Prop} (h:Rep S f c R):∀ y,y∈S.trues f (3 * c)↔∃ l,l∈alls c∧R l∧y=asn l:=by
 intro y;unfold ST.trues;rw [List.mem_filter,show (0:Nat)=3 * 0 from rfl,asgs_asn c 0,List.mem_map];constructor
 ·rintro ⟨⟨l,hl,rfl⟩,hd⟩;refine ⟨l,hl,?_,rfl⟩;have:=(h.2 _).1 hd;rwa [iQJ 0 hl] at this
 ·rintro ⟨l,hl,hr,rfl⟩;refine ⟨⟨l,hl,rfl⟩,(h.2 _).2 ?_⟩;unfold asn;rwa [iQJ 0 hl]
end
end Go.Proofs.YtgjomknpjigkhaaGreatDoor
