import Derived.Test.YtgjomknpjigkhaaGreatDoorS11
namespace Go.Proofs.YtgjomknpjigkhaaGreatDoor
set_option maxRecDepth 100000
set_option maxHeartbeats 4000000
section
open Go.RowKit
def TmRow (w:World) (g:Nat) (ts:List TermM):Prop:=g<w.heap.size∧∀ (j:Nat) (t:TermM),ts[j]?=some t→w.cell? ⟨g,j * 2,none⟩=some (.bool t.isVar)∧w.cell? ⟨g,j * 2+1,none⟩=some (.int .i64 t.num)
theorem TmRow.keeps {w w':World} {g:Nat} {ts:List TermM} {T:List Nat} (h:TmRow w g ts) (k:Keeps T w w') (hg:g∉T):TmRow w' g ts:=
 ⟨Nat.lt_of_lt_of_le h.1 k.size,fun j t hj=>by rw [cell_kept k h.1 hg,cell_kept k h.1 hg];exact h.2 j t hj⟩
def ByIs (S:ST) (bys:List Int) (Gs:List ((Int→Bool)→Bool)):Prop:=bys.length=Gs.length∧∀ (i:Nat) (b:Int) (G:(Int→Bool)→Bool),bys[i]?=some b→Gs[i]?=some G→RepB S b (fun σ=>G σ=true)
theorem ByIs.ext {S S':ST} {bys:List Int} {Gs:List ((Int→Bool)→Bool)} (h:ByIs S bys Gs) (x:Ext S S') (hw:WF S) (hw':WF S'):ByIs S' bys Gs:=⟨h.1,fun i b G h1 h2=>(h.2 i b G h1 h2).ext x hw hw'⟩
theorem ByIs.snoc {S:ST} {bys:List Int} {Gs:List ((Int→Bool)→Bool)} (h:ByIs S bys Gs) {b:Int} {G:(Int→Bool)→Bool} (hb:RepB S b (fun σ=>G σ=true)):ByIs S (bys++[b]) (Gs++[G]):=by
 refine ⟨by simp [h.1],fun i b' G' h1 h2=>?_⟩
 rcases Nat.lt_trichotomy i bys.length with hi | hi | hi
 ·rw [List.getElem?_append_left hi] at h1
  rw [List.getElem?_append_left (by rw [←h.1];exact hi)] at h2
  exact h.2 i b' G' h1 h2
 ·subst hi
  rw [List.getElem?_append_right (Nat.le_refl _)] at h1
  rw [h.1,List.getElem?_append_right (Nat.le_refl _)] at h2
  simp at h1 h2
  subst h1 h2
  exact hb
 ·rw [List.getElem?_eq_none (by simp;omega)] at h1;cases h1
theorem ByIs.ok {S:ST} {bys:List Int} {Gs:List ((Int→Bool)→Bool)} (h:ByIs S bys Gs):∀ b∈bys,S.ok b:=fun b hb=>by
 obtain ⟨i,hi,rfl⟩:=List.getElem_of_mem hb
 exact (h.2 i _ _ (List.getElem?_eq_getElem hi) (List.getElem?_eq_getElem (by rw [←h.1];exact hi))).1
theorem ByIs.val {S:ST} {bys:List Int} {Gs:List ((Int→Bool)→Bool)} (h:ByIs S bys Gs) {i:Nat} {G:(Int→Bool)→Bool} (hi:Gs[i]?=some G) (σ:Int→Bool):sbV S bys σ (i:Int)=G σ:=by
 have hl:i<bys.length:=by rw [h.1];exact (List.getElem?_eq_some_iff.1 hi).1
 unfold sbV
 rw [Int.toNat_natCast,List.getElem?_eq_getElem hl,Option.getD_some]
 exact Bool.eq_iff_iff.2 ((h.2 i _ G (List.getElem?_eq_getElem hl) hi).2 σ)
def tb3 (t:TermM):List ((Int→Bool)→Bool):=[fun σ=>tbit σ t 0,fun σ=>tbit σ t 1,fun σ=>tbit σ t 2]
def tbs (ts:List TermM):List ((Int→Bool)→Bool):=ts.flatMap tb3
theorem tbs_len (ts:List TermM):(tbs ts).length=3 * ts.length:=by
 induction ts with
 | nil=>rfl
 | cons t ts ih=>
  have e:(tbs (t :: ts)).length=3+(tbs ts).length:=by simp [tbs,tb3];omega
  rw [e,ih,List.length_cons];omega
theorem tbs_at {ts:List TermM} {p:Nat} {t:TermM} (h:ts[p]?=some t) {i:Nat} (hi:i<3):(tbs ts)[3 * p+i]?=some (fun σ=>tbit σ t i):=by
 induction ts generalizing p with
 | nil=>simp at h
 | cons y ts ih=>
  have e:tbs (y :: ts)=tb3 y++tbs ts:=by simp [tbs]
  cases p with
  | zero=>
   simp at h;subst h
   rw [e,List.getElem?_append_left (by simp [tb3];omega)]
   match i with
   | 0=>rfl
   | 1=>rfl
   | 2=>rfl
   | i+3=>omega
  | succ p=>
   rw [e,List.getElem?_append_right (by simp [tb3];omega),show 3 * (p+1)+i - (tb3 y).length=3 * p+i by simp [tb3];omega]
   exact ih (by simpa using h)
theorem tup_terms {τ σ:Int→Bool}:∀ (ts:List TermM) (q:Nat),(∀ t∈ts,TmOk t)→(∀ (p:Nat) (t:TermM),ts[p]?=some t→∀ i,i<3→τ (3 * (q+p)+i:Nat)=tbit σ t i)→tupF τ q ts.length=ts.map (tnum σ)
 | [],_,_,_=>rfl
 | t :: ts,q,hk,h=>by
  simp only [List.length_cons,tupF,List.map_cons]
  rw [tup_terms ts (q+1) (fun t ht=>hk t (List.mem_cons_of_mem _ ht)) fun p t hp i hi=>by rw [show q+1+p=q+(p+1) by omega];exact h (p+1) t (by simpa using hp) i hi]
  congr 1
  rw [tnum_bits σ (hk t (by simp))]
  unfold numA
  have h0:=h 0 t rfl 0 (by omega)
  have h1:=h 0 t rfl 1 (by omega)
  have h2:=h 0 t rfl 2 (by omega)
  simp only [Nat.add_zero] at h0 h1 h2
  rw [h0,h1,h2]
theorem where_calls {w:World} {B:SB} {S:ST} (hE:EngS w B S) {bb:Nat} (hb:BsAt w bb B) {f:Int} (ρ:Int) {g c:Nat} (ts:List TermM) (hg:g∉B.own) (hrow:TmRow w g ts) (htm:∀ t∈ts,TmOk t) (h1:0<ts.length) (h4:ts.length≤4) {R:List Nat→Prop} (hf:Rep S f ts.length R) (hl:S.next+16769100<lim) :
  Calls Tryz.prog 262 #[.pointer (some ⟨bb,0,none⟩),.int .i64 f,.agg #[.int .i64 ρ,.slice (some ⟨g,0,none⟩) ts.length c]] w (OutB B w S (fun σ=>R (ts.map (tnum σ))) 16769037):=by
 obtain ⟨i0,hi0,hz0,hz1,hz2⟩:=info_parts info3
 have kA:=Keeps.alloc [] w (.cells #[.int .i64 ρ,.slice (some ⟨g,0,none⟩) ts.length c] 151)
 have hE1:=hE.keeps0 kA
 have hb1:=hb.keeps kA (by simp)
 have hr1:=hrow.keeps kA (by simp)
 have hsz:=sizeE_alloc w (.cells #[.int .i64 ρ,.slice (some ⟨g,0,none⟩) ts.length c] 151)
 have Hl:=hide hl
 have Hfr:=hide (fun j (hj:w.heap.size≤j)=>hE.sat.fresh hj)
 clear hl
 go_enter Tryz.func262,Tryz.ntmps262
 go_wp2_with fail
 generalize w.alloc (.cells #[.int .i64 ρ,.slice (some ⟨g,0,none⟩) ts.length c] 151)=W at *
 have Hz:=hide hsz
 clear hsz
 generalize hzz:w.heap.size=z at *
 go_loopw [7,14] (fun x y wr=>∃ (j:Nat) (bys:List Int) (S1:ST),y=.int .i64 j∧j≤ts.length∧EngS wr B S1∧Keeps B.own w wr∧Ext S S1∧S1.next≤S.next+3 * j∧ByIs S1 bys (tbs (ts.take j))∧Hid (wr.ownsRow z 3 1 x (3 * j) (ints bys))) (fun _ y _=>((ts.length:Int) - intOf y).toNat)
 case atStart=>exact ⟨0,[],S,rfl,by omega,hE1,kA.mono (by simp),Ext.refl S,by omega,⟨rfl,fun i b G h=>by simp at h⟩,hide ⟨rfl,.inl ⟨rfl,rfl⟩⟩⟩
 case round=>
  obtain ⟨j,bys,S1,rfl,hj,hEr,hk,hx,hn,hby,hown⟩:=hrel
  have hbr:=hb.own hk
  have hrr:=hrow.keeps hk hg
  by_cases hjl:j<ts.length
  ·have hjI:(j:Int)<ts.length:=by omega
   rename World=>wo
   obtain ⟨t,ht⟩:∃ t,ts[j]?=some t:=⟨_,List.getElem?_eq_getElem hjl⟩
   obtain ⟨g1,g2⟩:=hrr.2 j t ht
   have htk:ts.take (j+1)=ts.take j++[t]:=by rw [List.take_add_one,ht];rfl
   have htb:tbs (ts.take (j+1))=tbs (ts.take j)++tb3 t:=by rw [htk];simp [tbs]
   have hto:=htm t (List.mem_of_getElem? ht)
   obtain ⟨v,m⟩:=t
   simp only at g1 g2
   have kB:=Keeps.alloc [] wo (.cells #[.bool v,.int .i64 m] 220)
   have hEb:=hEr.keeps0 kB
   have hbb:=hbr.keeps kB (by simp)
   have hTb:=CellsAt.new wo #[.bool v,.int .i64 m] 220
   have hob:=hide (ownsRow_kept hown.out kB (by simp))
   have hne:∀ q,Value.ownBlock u7=some q→q≠wo.heap.size:=fun q hq=>by have:=(World.ownsRow.lt hown.out q hq).2;omega
   have Hne:=hide hne
   have hwz:z≤wo.heap.size:=by have:=hk.size;omega
   have hsb:=sizeE_alloc wo (.cells #[.bool v,.int .i64 m] 220)
   have Hn:=hide hn
   have Htb:=hide htb
   have Hto:=hide hto
   have Hwr:=hide hwz
   have Hsb:=hide hsb
   clear hn htb htk ht hto hwz hsb hown hne
   go_wp2_with fail
   generalize hWb:wo.alloc (.cells #[.bool v,.int .i64 m] 220)=Wb at *
   generalize hyb:wo.heap.size=yb at *
   go_loopw [7,18] (fun x y wr=>∃ (i:Nat) (bs:List Int) (S2:ST),y=.int .i64 i∧i≤3∧EngS wr B S2∧Keeps B.own w wr∧CellsAt wr yb #[.bool v,.int .i64 m]∧(∀ q,Value.ownBlock x=some q→q≠yb)∧Ext S1 S2∧S2.next≤S1.next+i∧ByIs S2 bs (tbs (ts.take j)++(tb3 ⟨v,m⟩).take i)∧Hid (wr.ownsRow z 3 1 x (3 * j+i) (ints bs))) (fun _ y _=>((3:Int) - intOf y).toNat)
   case atStart=>exact ⟨0,bys,S1,rfl,by omega,hEb,hk.trans (kB.mono (by simp)),hTb,Hne.out,Ext.refl S1,by omega,by simpa using hby,hob⟩
   case round=>
    obtain ⟨i,bs,S2,rfl,hi,hEi,hki,hTi,hnei,hxi,hni,hbi,howi⟩:=hrel
    have Hnei:=hide hnei
    clear hnei
    by_cases hi3:i<3
    ·have hiI:(i:Int)<3:=by omega
     have q0:=hTi.cell 0
     have q1:=hTi.cell 1
     simp at q0 q1
     have hbt:=hide (bit_calls hEi (hb.own hki) ⟨v,m⟩ Hto.out i hi3 (by have:=Hl.out;have:=Hn.out;omega))
     simp only [tmV] at hbt
     have Hni:=hide hni
     clear hni
     go_wp2_with fail
     refine hbt.out.mono ?_
     rintro e W3 ⟨y,S3,rfl,hE3,k3,x3,n3,hr3⟩
     have hlow:∀ q,Value.ownBlock u7=some q→q∉B.own:=fun q hq=>Hfr.out q (ownE_base howi.out q hq).1
     have ho3:=ownsRow_kept howi.out k3 hlow
     have kC:=Keeps.alloc [] W3 (.cells #[.int .i64 y] 3)
     have hoC:=ownsRow_kept ho3 kC (by simp)
     have hsz3:z≤(W3.alloc (.cells #[.int .i64 y] 3)).heap.size:=by rw [sizeE_alloc];have:=k3.size;have:=hki.size;omega
     have hone:=one_cellE (W:=W3) (y:=y)
     have hbl:=hbi.1
     clear hbt q0 q1
     go_wp2_with (at_builtin;refine wpList_append_own_at _ rfl _ _ 40 rfl z 3 i0 (.int .i64 0) 1 8 Tryz.underlying40 hi0 hz0 hz1 hz2 rfl (by decide) _ (3 * j+i) (ints bs) rfl hoC ⟨W3.heap.size,0,none⟩ 1 1 (ints [y]) rfl (by simp [ints]) hone (ints_one _) (by unfold maxLen;omega) (by omega) hsz3 ?_)
     intro v' W4 hown4 hgrow4 hnil4 hat4
     have k4:=grownBy_keeps' hgrow4 (Value.ownBlock u7).toList (fun r e=>.inl (by simp [e]))
     have hlT:∀ q∈B.own,q∉(Value.ownBlock u7).toList:=fun q hq hx=>hlow q (by simpa using hx) hq
     have hE4:=(hE3.keeps0 kC).keeps k4 hlT
     have k34:Keeps B.own w W4:=((hki.trans k3).trans (kC.mono (by simp))).trans_new k4 (fun q hq=>.inr (by rw [hzz];exact (ownE_base howi.out q (by simpa using hq)).1))
     have hT4:=((hTi.keeps k3 (Hfr.out _ Hwr.out)).keeps kC (by simp)).keeps k4 (fun hq=>Hnei.out _ (by simpa using hq) rfl)
     have hyl:yb<W3.heap.size:=(hTi.keeps k3 (Hfr.out _ Hwr.out)).lt
     have hne4:∀ q,Value.ownBlock v' = some q→q≠yb:=fun q hq=>by
      rcases hat4 with e | e
      ·rw [e] at hq;exact Hnei.out q hq
      ·rw [e] at hq;have:=Option.some.inj hq;omega
     have Hne4:=hide hne4
     have h3e:(tb3 ⟨v,m⟩)[i]?=some (fun σ=>tbit σ ⟨v,m⟩ i):=by
      match i with
      | 0=>rfl
      | 1=>rfl
      | 2=>rfl
      | i+3=>omega
     have H3e:=hide h3e
     have Hown4:=hide hown4
     clear h3e hown4 hgrow4 hnil4 hat4 hone hsz3 hoC ho3 hne4 hyl
     go_wp2_with fail
     go_roundw
     ·refine ⟨i+1,bs++[y],S3,by simp,by omega,hE4,k34,hT4,Hne4.out,hxi.trans x3,by have:=Hni.out;push_cast;omega,?_,hide ?_⟩
      ·rw [List.take_add_one,H3e.out,←List.append_assoc]
       exact (hbi.ext x3 hEi.wf hE3.wf).snoc hr3
      ·have:=Hown4.out
       simpa [ints,Nat.add_assoc] using this
     ·simp only [intOf];omega
    ·have hiI:¬ (i:Int)<3:=by omega
     have e:i=3:=by omega
     subst e
     have Hni:=hide hni
     clear hni
     go_wp2_with fail
     go_roundw
     ·refine ⟨j+1,bs,S2,by simp,by omega,hEi,hki,hx.trans hxi,by have:=Hni.out;have:=Hn.out;push_cast;omega,?_,?_⟩
      ·rw [Htb.out];exact hbi
      ·exact hide howi.out
     ·simp only [intOf];omega
  ·have hjI:¬ (j:Int)<ts.length:=by omega
   have e:j=ts.length:=by omega
   subst e
   rw [List.take_length] at hby
   have hbl:bys.length=3 * ts.length:=by rw [hby.1,tbs_len]
   rw [←hbl] at hown
   obtain ⟨gb,cb,hv,hgb,hrb,_⟩:=rowE_of hown.out (by omega)
   subst hv
   have Hby:=hide hby
   have hs:=hide (subst_E (ct:=cb) hEr (k:=3 * ts.length) (hx.ok hf.1) (hf.hk.ext hx hE.wf hEr.wf hf.1) hrb (Hfr.out _ hgb) (by omega) hby.ok (by have:=Hl.out;omega))
   have g0:=hbr.cell
   have Hn:=hide hn
   clear hn hown hbl hby hrb
   go_wp2_with fail
   refine hs.out.mono ?_
   rintro e W3 ⟨r,S3,rfl,hE3,k3,x3,n3,hr3⟩
   go_wp2_with fail
   go_ret
   refine ⟨r,S3,rfl,hE3,hk.trans k3,hx.trans x3,by have:=Hn.out;omega,hr3.1,fun σ=>?_⟩
   rw [hr3.2]
   show S1.den f (sbV S1 bys σ)=true↔R (ts.map (tnum σ))
   rw [hx.den hE.wf hEr.wf hf.1,hf.2,tup_terms (σ:=σ) ts 0 htm]
   intro p t hp i hi
   rw [Nat.zero_add]
   exact Hby.out.val (tbs_at hp hi) σ
end
section
open Go.RowKit
def isV (v:Nat) (t:TermM):Bool:=t.isVar && decide (t.num=(v:Int))
def fcol (ts:List TermM) (v:Nat):Int:=match ts.findIdx? (isV v) with
 | some p=>(p:Int)
 | none=>-1
theorem index_calls {w:World} {g c:Nat} (ts:List TermM) (hrow:TmRow w g ts) (h4:ts.length≤4) (v:Nat) :
  Calls Tryz.prog 209 #[.slice (some ⟨g,0,none⟩) ts.length c,.agg #[.bool true,.int .i64 (v:Int)]] w fun e w'=>e=.returned (.int .i64 (fcol ts v))∧Keeps [] w w':=by
 have kA:=Keeps.alloc [] w (.cells #[.bool true,.int .i64 (v:Int)] 220)
 have hT:=CellsAt.new w #[.bool true,.int .i64 (v:Int)] 220
 have hr1:=hrow.keeps kA (by simp)
 go_enter Tryz.func209,Tryz.ntmps209
 go_wp2_with fail
 generalize w.alloc (.cells #[.bool true,.int .i64 (v:Int)] 220)=W at *
 generalize w.heap.size=z at *
 go_loopw [8] (fun y wr=>∃ j:Nat,y=.int .i64 j∧j≤ts.length∧Keeps [] W wr∧∀ p,p<j→∀ t,ts[p]?=some t→isV v t=false) (fun y _=>((ts.length:Int) - intOf y).toNat)
 case atStart=>exact ⟨0,rfl,by omega,Keeps.refl _ _,fun p h=>by omega⟩
 case round=>
  obtain ⟨j,rfl,hj,hk,hno⟩:=hrel
  have hTr:=hT.keeps hk (by simp)
  have hrr:=hr1.keeps hk (by simp)
  have Hno:=hide hno
  clear hno
  have q0:=hTr.cell 0
  have q1:=hTr.cell 1
  simp at q0 q1
  by_cases hjl:j<ts.length
  ·have hjI:(j:Int)<ts.length:=by omega
   obtain ⟨t,ht⟩:∃ t,ts[j]?=some t:=⟨_,List.getElem?_eq_getElem hjl⟩
   obtain ⟨g1,g2⟩:=hrr.2 j t ht
   have Ht:=hide ht
   clear ht
   cases hm:isV v t with
   | true=>
    obtain ⟨b,m⟩:=t
    simp only [isV,Bool.and_eq_true,decide_eq_true_eq] at hm g1 g2
    obtain ⟨rfl,rfl⟩:=hm
    go_wp2_with fail
    go_quiet (fail)
    go_wp2_with fail
    go_ret
    refine ⟨?_,(kA.trans hk).trans (Keeps.drewN _ _ _)⟩
    have e:ts.findIdx? (isV v)=some j:=by
     rw [List.findIdx?_eq_some_iff_getElem]
     refine ⟨hjl,?_,fun p hp=>?_⟩
     ·have:=(List.getElem?_eq_some_iff.1 Ht.out).2;rw [this];simp [isV]
     ·have:=Hno.out p hp _ (List.getElem?_eq_getElem (by omega));simp [this]
    unfold fcol
    rw [e]
    rfl
   | false=>
    obtain ⟨b,m⟩:=t
    simp only at g1 g2
    have Hm:=hide hm
    have hnx:∀ p,p<j+1→∀ t,ts[p]?=some t→isV v t=false:=fun p hp t h=>by
     by_cases e:p<j
     ·exact Hno.out p e t h
     ·have e2:p=j:=by omega
      subst e2
      rw [Ht.out] at h
      cases h
      exact Hm.out
    have Hnx:=hide hnx
    clear hm hnx
    cases b with
    | true=>
     have hne:((v:Int) == m)=false:=by
      have:=Hm.out
      simp only [isV,Bool.true_and,decide_eq_false_iff_not] at this
      simpa using fun h:(v:Int)=m=>this h.symm
     go_wp2_with fail
     go_quiet (fail)
     go_wp2_with fail
     go_roundw
     ·exact ⟨j+1,by simp,by omega,hk.trans (Keeps.drewN _ _ _),Hnx.out⟩
     ·simp only [intOf];omega
    | false=>
     go_wp2_with fail
     go_quiet (fail)
     go_wp2_with fail
     go_roundw
     ·exact ⟨j+1,by simp,by omega,hk.trans (Keeps.drewN _ _ _),Hnx.out⟩
     ·simp only [intOf];omega
  ·have hjI:¬ (j:Int)<ts.length:=by omega
   have e:j=ts.length:=by omega
   subst e
   go_wp2_with fail
   go_ret
   refine ⟨?_,kA.trans hk⟩
   have e:ts.findIdx? (isV v)=none:=by
    rw [List.findIdx?_eq_none_iff]
    intro t ht
    obtain ⟨p,hp,rfl⟩:=List.getElem_of_mem ht
    exact Hno.out p hp _ (List.getElem?_eq_getElem hp)
   unfold fcol
   rw [e]
   rfl
def fcA (ts:List TermM) (j:Nat):Array Value:=#[.int .i64 (if 0<j then fcol ts 0 else 0),.int .i64 (if 1<j then fcol ts 1 else 0),.int .i64 (if 2<j then fcol ts 2 else 0),.int .i64 (if 3<j then fcol ts 3 else 0)]
theorem fcA_at (ts:List TermM) {j:Nat} (h:j<4):(fcA ts j)[j]?=some (.int .i64 0):=by
 match j with
 | 0=>rfl
 | 1=>rfl
 | 2=>rfl
 | 3=>rfl
 | j+4=>omega
theorem fcA_set (ts:List TermM) {j:Nat} (h:j<4):(fcA ts j).setIfInBounds j (.int .i64 (fcol ts j))=fcA ts (j+1):=by
 match j with
 | 0=>rfl
 | 1=>rfl
 | 2=>rfl
 | 3=>rfl
 | j+4=>omega
structure RsA (w:World) (r:Nat) (a0 a1 a2 a3 x0 x1 x2 x3:Value):Prop where
 c0:w.cell? ⟨r,0,none⟩=some a0
 f0:w.frozen? ⟨r,0,none⟩=false
 c1:(w.setCell ⟨r,0,none⟩ x0).cell? ⟨r,1,none⟩=some a1
 f1:(w.setCell ⟨r,0,none⟩ x0).frozen? ⟨r,1,none⟩=false
 c2:((w.setCell ⟨r,0,none⟩ x0).setCell ⟨r,1,none⟩ x1).cell? ⟨r,2,none⟩=some a2
 f2:((w.setCell ⟨r,0,none⟩ x0).setCell ⟨r,1,none⟩ x1).frozen? ⟨r,2,none⟩=false
 c3:(((w.setCell ⟨r,0,none⟩ x0).setCell ⟨r,1,none⟩ x1).setCell ⟨r,2,none⟩ x2).cell? ⟨r,3,none⟩=some a3
 f3:(((w.setCell ⟨r,0,none⟩ x0).setCell ⟨r,1,none⟩ x1).setCell ⟨r,2,none⟩ x2).frozen? ⟨r,3,none⟩=false
 at_:CellsAt ((((w.setCell ⟨r,0,none⟩ x0).setCell ⟨r,1,none⟩ x1).setCell ⟨r,2,none⟩ x2).setCell ⟨r,3,none⟩ x3) r #[x0,x1,x2,x3]
 keeps:Keeps [r] w ((((w.setCell ⟨r,0,none⟩ x0).setCell ⟨r,1,none⟩ x1).setCell ⟨r,2,none⟩ x2).setCell ⟨r,3,none⟩ x3)
theorem rsA {w:World} {r:Nat} {a0 a1 a2 a3:Value} (h:CellsAt w r #[a0,a1,a2,a3]) (x0 x1 x2 x3:Value):RsA w r a0 a1 a2 a3 x0 x1 x2 x3:=by
 have h1:=h.setCell 0 x0
 have h2:=h1.setCell 1 x1
 have h3:=h2.setCell 2 x2
 have h4:=h3.setCell 3 x3
 exact ⟨h.cell 0,h.frozen 0,h1.cell 1,h1.frozen 1,h2.cell 2,h2.frozen 2,h3.cell 3,h3.frozen 3,h4,(((Keeps.setCell w ⟨r,0,none⟩ x0).trans (Keeps.setCell _ ⟨r,1,none⟩ x1)).trans (Keeps.setCell _ ⟨r,2,none⟩ x2)).trans (Keeps.setCell _ ⟨r,3,none⟩ x3)⟩
theorem first_calls {w:World} {g c:Nat} (ρ:Int) (ts:List TermM) (hrow:TmRow w g ts) (h4:ts.length≤4) :
  Calls Tryz.prog 142 #[.agg #[.int .i64 ρ,.slice (some ⟨g,0,none⟩) ts.length c]] w fun e w'=>e=.returned (.agg #[.int .i64 (fcol ts 0),.int .i64 (fcol ts 1),.int .i64 (fcol ts 2),.int .i64 (fcol ts 3)])∧Keeps [] w w':=by
 have kA:=Keeps.alloc [] w (.cells #[.int .i64 ρ,.slice (some ⟨g,0,none⟩) ts.length c] 151)
 have hA:=CellsAt.new w #[.int .i64 ρ,.slice (some ⟨g,0,none⟩) ts.length c] 151
 generalize hW1:w.alloc (.cells #[.int .i64 ρ,.slice (some ⟨g,0,none⟩) ts.length c] 151)=W1 at kA hA
 have hs1:W1.heap.size=w.heap.size+1:=by rw [←hW1];exact sizeE_alloc _ _
 have kB:=Keeps.alloc [] W1 (.cells #[.int .i64 0,.int .i64 0,.int .i64 0,.int .i64 0] 216)
 have hB:=CellsAt.new W1 #[.int .i64 0,.int .i64 0,.int .i64 0,.int .i64 0] 216
 generalize hW2:W1.alloc (.cells #[.int .i64 0,.int .i64 0,.int .i64 0,.int .i64 0] 216)=W2 at kB hB
 have hs2:W2.heap.size=w.heap.size+1+1:=by rw [←hW2,←hs1];exact sizeE_alloc _ _
 have kC:=Keeps.alloc [] W2 (.cells #[.int .i64 0,.int .i64 0,.int .i64 0,.int .i64 0] 216)
 have hC:=CellsAt.new W2 #[.int .i64 0,.int .i64 0,.int .i64 0,.int .i64 0] 216
 generalize hW3:W2.alloc (.cells #[.int .i64 0,.int .i64 0,.int .i64 0,.int .i64 0] 216)=W3 at kC hC
 rw [hs1] at hB
 rw [hs2] at hC
 have hA3:=(hA.keeps kB (by simp)).keeps kC (by simp)
 have hB3:=hB.keeps kC (by simp)
 have hr3:=((hrow.keeps kA (by simp)).keeps kB (by simp)).keeps kC (by simp)
 have kk:=(kA.trans kB).trans kC
 have hgl:=hrow.1
 go_enter Tryz.func142,Tryz.ntmps142
 go_wp2_with fail
 clear hW1 hW2 hW3 hs1 hs2 kA kB kC hA hB
 generalize hz:w.heap.size=z at *
 go_loopw [5] (fun y wr=>∃ j:Nat,y=.int .i64 j∧j≤4∧CellsAt wr (z+1+1) (fcA ts j)∧Keeps [z+1+1] W3 wr) (fun y _=>((4:Int) - intOf y).toNat)
 case atStart=>exact ⟨0,rfl,by omega,hC,Keeps.refl _ _⟩
 case round=>
  obtain ⟨j,rfl,hj,hc,hk⟩:=hrel
  have hAr:=hA3.keeps hk (by simp;omega)
  have hrr:=hr3.keeps hk (by simp;omega)
  have a1:=hAr.cell 1
  simp at a1
  by_cases hj4:j<4
  ·have hjI:(j:Int)<4:=by omega
   have hix:=hide (index_calls (c:=c) ts hrr h4 j)
   have c0:wr.cell? ⟨z+1+1,j,none⟩=some (.int .i64 0):=by rw [hc.cell];exact fcA_at ts hj4
   have hnx:=fcA_set ts hj4
   have Hnx:=hide hnx
   clear hnx
   go_wp2_with fail
   refine hix.out.mono ?_
   rintro e W4 ⟨rfl,k4⟩
   have hc4:=hc.keeps k4 (by simp)
   have c4:W4.cell? ⟨z+1+1,j,none⟩=some (.int .i64 0):=by rw [hc4.cell];exact fcA_at ts hj4
   have f4:=hc4.frozen j
   have hs4:=hc4.setCell j (.int .i64 (fcol ts j))
   rw [Hnx.out] at hs4
   have kS:=Keeps.setCell W4 ⟨z+1+1,j,none⟩ (.int .i64 (fcol ts j))
   generalize hF:fcol ts j=F at *
   go_wp2_with fail
   go_roundw
   ·exact ⟨j+1,by simp,by omega,hs4,(hk.trans (k4.mono (by simp))).trans kS⟩
   ·simp only [intOf];omega
  ·have hjI:¬ (j:Int)<4:=by omega
   have e:j=4:=by omega
   subst e
   have b0:=hc.cell 0
   have b1:=hc.cell 1
   have b2:=hc.cell 2
   have b3:=hc.cell 3
   simp [fcA] at b0 b1 b2 b3
   obtain ⟨r0,p0,r1,p1,r2,p2,r3,p3,hR,kR⟩:=rsA (hB3.keeps hk (by simp)) (.int .i64 (fcol ts 0)) (.int .i64 (fcol ts 1)) (.int .i64 (fcol ts 2)) (.int .i64 (fcol ts 3))
   have HR:=hide hR
   have KR:=hide kR
   clear hR kR
   generalize hF0:fcol ts 0=F0 at *
   generalize hF1:fcol ts 1=F1 at *
   generalize hF2:fcol ts 2=F2 at *
   generalize hF3:fcol ts 3=F3 at *
   go_wp2_with fail
   obtain ⟨ty,hty⟩:=HR.out
   refine bodyPost_ret (v:=.agg #[.int .i64 F0,.int .i64 F1,.int .i64 F2,.int .i64 F3]) (results_cell_row (p:=2) (ty:=216) (by kernel_rfl) _ _ _ _ _ _ _ rfl hty Tryz.underlying216 rfl (by kernel_rfl)) rfl ⟨rfl,?_⟩
   have hl:∀ i∈[z+1+1],i∈([]:List Nat)∨w.heap.size≤i:=fun i hi=>.inr (by simp at hi;omega)
   have hl2:∀ i∈[z+1],i∈([]:List Nat)∨w.heap.size≤i:=fun i hi=>.inr (by simp at hi;omega)
   exact (kk.trans_new hk hl).trans_new KR.out hl2
end
section
open Go.RowKit
theorem run_index4 (a b c d:Int) (i:Nat) (hi:i<4) (w:World):(Instr.index 216 (.agg #[.int .i64 a,.int .i64 b,.int .i64 c,.int .i64 d]) (.int .i64 (i:Int))).run Tryz.prog w=.ok (.int .i64 ([a,b,c,d].getD i 0)) w:=by
 have hu:=Tryz.underlying216
 match i with
 | 0=>simp [Instr.index,run_underlying hu,go_sem]
 | 1=>simp [Instr.index,run_underlying hu,go_sem]
 | 2=>simp [Instr.index,run_underlying hu,go_sem]
 | 3=>simp [Instr.index,run_underlying hu,go_sem]
 | i+4=>omega
def GoneIs (fc:Nat→Int) (q G:Nat):Prop:=G<2 ^ q∧∀ u,u<q→(G.testBit u=true↔fc (u / 3)<0)
def hG (fc:Nat→Int) (q u:Nat):(Int→Bool)→Bool:=fun σ=>if u<q∧0≤fc (u / 3) then σ (3 * (fc (u / 3)).toNat+u % 3:Nat) else false
def hGs (fc:Nat→Int) (q:Nat):List ((Int→Bool)→Bool):=(List.range 12).map (hG fc q)
theorem GoneIs.skip {fc:Nat→Int} {q G:Nat} (h:GoneIs fc q G) (hf:¬ fc (q / 3)<0):GoneIs fc (q+1) G:=by
 refine ⟨Nat.lt_of_lt_of_le h.1 (Nat.pow_le_pow_right (by decide) (by omega)),fun u hu=>?_⟩
 by_cases e:u<q
 ·exact h.2 u e
 ·have:u=q:=by omega
  subst this
  rw [Nat.testBit_lt_two_pow h.1]
  simp;omega
theorem GoneIs.add {fc:Nat→Int} {q G:Nat} (h:GoneIs fc q G) (hf:fc (q / 3)<0):GoneIs fc (q+1) (G+2 ^ q):=by
 have e:G+2 ^ q=2 ^ q * 1+G:=by rw [Nat.mul_one,Nat.add_comm]
 have h1:=h.1
 refine ⟨by rw [Nat.pow_succ];omega,fun u hu=>?_⟩
 rw [e,Nat.testBit_two_pow_mul_add _ h.1]
 by_cases e:u<q
 ·rw [if_pos e];exact h.2 u e
 ·have:u=q:=by omega
  subst this
  rw [if_neg (by omega)]
  simp [hf]
theorem hGs_skip {fc:Nat→Int} {q:Nat} (hf:fc (q / 3)<0):hGs fc (q+1)=hGs fc q:=by
 unfold hGs
 refine List.map_congr_left fun u _=>?_
 funext σ
 unfold hG
 by_cases e:u=q
 ·subst e
  rw [if_neg (by omega),if_neg (by omega)]
 ·have:(u<q+1∧0≤fc (u / 3))↔(u<q∧0≤fc (u / 3)):=by omega
  simp only [this]
theorem ByIs.put {S:ST} {bys:List Int} {fc:Nat→Int} {q:Nat} {y:Int} (h:ByIs S bys (hGs fc q)) (hq:q<12) (hf:¬ fc (q / 3)<0) (hy:RepB S y (fun σ=>σ (3 * (fc (q / 3)).toNat+q % 3:Nat)=true)):ByIs S (bys.set q y) (hGs fc (q+1)):=by
 have hl:bys.length=12:=by rw [h.1];simp [hGs]
 refine ⟨by rw [List.length_set,hl];simp [hGs],fun i b G h1 h2=>?_⟩
 rw [List.getElem?_set] at h1
 by_cases e:q=i
 ·subst e
  rw [if_pos rfl,if_pos (by omega)] at h1
  have e1:=Option.some.inj h1
  subst e1
  simp only [hGs,List.getElem?_map,List.getElem?_range hq,Option.map_some,Option.some.injEq] at h2
  subst h2
  refine ⟨hy.1,fun σ=>?_⟩
  rw [hy.2]
  unfold hG
  dsimp only
  rw [if_pos (by omega)]
 ·rw [if_neg e] at h1
  have hi:i<12:=by have:=(List.getElem?_eq_some_iff.1 h1).1;omega
  refine h.2 i b G h1 ?_
  rw [←h2]
  simp only [hGs,List.getElem?_map,List.getElem?_range hi,Option.map_some]
  congr 1
  funext σ
  unfold hG
  have:(i<q+1∧0≤fc (i / 3))↔(i<q∧0≤fc (i / 3)):=by omega
  simp only [this]
theorem hGs_zero (S:ST) (fc:Nat→Int):ByIs S (List.replicate 12 0) (hGs fc 0):=by
 refine ⟨by simp [hGs],fun i b G h1 h2=>?_⟩
 rw [List.getElem?_replicate] at h1
 split at h1
 ·rename_i hi
  cases h1
  simp only [hGs,List.getElem?_map,List.getElem?_range hi,Option.map_some,Option.some.injEq] at h2
  subst h2
  exact ⟨ok_zero S,fun σ=>by simp [den_zero,hG]⟩
 ·cases h1
theorem made_intsE (n i:Nat) (h:i<n):(madeCells #[.int .i64 0] n)[i]?=some (.int .i64 0):=by
 have:=toList_madeCells_one (.int .i64 0) n
 rw [←Array.getElem?_toList,this,List.getElem?_replicate,if_pos h]
theorem run_makeE (w:World) (n:Nat) (hn:n≤1000):(Instr.makeSlice 40 (.int .i64 (n:Int)) (.int .i64 (n:Int))).run Tryz.prog w=.ok (.slice (some ⟨w.heap.size,0,none⟩) n n) (w.alloc (.cells (madeCells #[.int .i64 0] n) 3)):=by
 obtain ⟨i0,hi0,hz0,hz1,hz2⟩:=info_parts info3
 have:=run_make (P:=Tryz.prog) w 40 3 i0 (.int .i64 0) Tryz.underlying40 hi0 hz0 .i64 .i64 n n (by omega) (by omega) (by rw [hz2];omega) (by omega)
 rw [this,hz1]
 simp [Value.cells]
theorem fcol_lt {ts:List TermM} {v:Nat} {p:Nat} (h:fcol ts v=p):∃ t,ts[p]?=some t∧t.isVar=true∧t.num=v:=by
 unfold fcol at h
 cases e:ts.findIdx? (isV v) with
 | none=>rw [e] at h;simp only at h;omega
 | some q=>
  rw [e] at h
  simp only at h
  have:q=p:=by omega
  subst this
  obtain ⟨h1,h2,_⟩:=List.findIdx?_eq_some_iff_getElem.1 e
  refine ⟨_,List.getElem?_eq_getElem h1,?_⟩
  simpa [isV] using h2
theorem fcol_of {ts:List TermM} {t:TermM} (h:t∈ts) (hv:t.isVar=true) {v:Nat} (hn:t.num=v):∃ p:Nat,fcol ts v=p:=by
 unfold fcol
 cases e:ts.findIdx? (isV v) with
 | none=>have:=List.findIdx?_eq_none_iff.1 e t h;simp [isV,hv,hn] at this
 | some q=>exact ⟨q,rfl⟩
theorem fcol_neg (ts:List TermM) (v:Nat):fcol ts v<0∨∃ p:Nat,fcol ts v=p:=by
 unfold fcol
 cases ts.findIdx? (isV v) with
 | none=>exact .inl (by decide)
 | some q=>exact .inr ⟨q,rfl⟩
end
end Go.Proofs.YtgjomknpjigkhaaGreatDoor
