import Derived.Test.YtgjomknpjigkhaaGreatDoorS47
namespace Go.Proofs.YtgjomknpjigkhaaGreatDoor
set_option maxRecDepth 100000
set_option maxHeartbeats 4000000
section
open Go.RowKit Go.Shelf
attribute [local go_sem] Oper.semAt_some
theorem works_tup {l:List Nat} (h:l=[0,2]∨l=[2,0]):TupOk worksM 1 l:=⟨⟨ba [112],[0,0],rfl,by rcases h with rfl | rfl <;> rfl,fun k x d h1 h2=>by
 have hd:d=0:=by
  match k,h2 with
  | 0,h2=>simpa using h2.symm
  | 1,h2=>simpa using h2.symm
  | k+2,h2=>simp at h2
 subst hd
 show (x:Int)<3
 rcases h with rfl | rfl
 ·match k,h1 with
  | 0,h1=>simp at h1;omega
  | 1,h1=>simp at h1;omega
  | k+2,h1=>simp at h1
 ·match k,h1 with
  | 0,h1=>simp at h1;omega
  | 1,h1=>simp at h1;omega
  | k+2,h1=>simp at h1⟩⟩
theorem row2 (W:World) (a b:Nat):RowIs (W.alloc (.cells #[.int .i64 (a:Int),.int .i64 (b:Int)] 3)) W.heap.size (dgs [a,b]):=⟨_,CellsAt.new W _ 3,fun i x hx=>by
 match i with
 | 0=>simp [dgs] at hx;subst hx;rfl
 | 1=>simp [dgs] at hx;subst hx;rfl
 | i+2=>simp [dgs] at hx⟩
theorem works_calls (w:World):Calls Tryz.prog 13 #[] w fun e w'=>e=.returned (.bool true)∧Keeps [] w w':=by
 obtain ⟨toks,hread⟩:=works_read
 have hfine:=readS_fine hread
 have hld:=hide (fun (W:World)=>load_text (w:=W) (ba (bytesP worksP)) (by decide) (fun t m h=>by rw [hread] at h;cases h;decide))
 rw [hread] at hld
 have hck:=hide (fun (W:World)=>check_text (w:=W) (ba (bytesP twiceP)) (by decide))
 rw [twice_read] at hck
 have et:({ data:=([100,111,109,32,100,32,51,59,32,114,101,108,32,101,40,100,44,32,100,41,59,32,114,101,108,32,112,40,100,44,32,100,41,59,32,101,40,48,44,32,49,41,46,32,101,40,49,44,32,50].append [41,46,32,112,40,88,44,32,89,41,32,58,45,32,101,40,88,44,32,89,41,46,32,112,40,88,44,32,90,41,32,58,45,32,112,40,88,44,32,89,41,44,32,101,40,89,44,32,90,41,46]).toArray }:ByteArray)=ba (bytesP worksP):=by rfl
 have et2:({ data:=#[100,111,109,32,100,32,51,59,32,100,111,109,32,100,32,50,59] }:ByteArray)=ba (bytesP twiceP):=by rfl
 have ep:({ data:=#[112] }:ByteArray)=ba [112]:=rfl
 have hp:placeB (worksM.rels.map Prod.fst) (ba [112])=some 1:=by decide
 go_enter Tryz.func13,Tryz.ntmps13
 rw [et,et2,ep]
 generalize ba (bytesP worksP)=t1 at *
 generalize ba (bytesP twiceP)=t2 at *
 generalize ba [112]=sp at *
 clear et et2 ep hread
 go_wp2_with fail
 refine (hld.out _).mono ?_
 rintro e W1 ⟨⟨eb,bb,B,S,gr,cr,rs,tv,mv,ka,ks,kc,vals,rk,rfl,hM⟩,k1⟩
 obtain ⟨hr1,hr2,hr3⟩:=works_holds hM.lay (hM.lays hfine)
 have kF:=Keeps.alloc [] W1 (.cells #[.int .i64 0,.int .i64 0] 28)
 have hF:=CellsAt.new W1 #[.int .i64 0,.int .i64 0] 28
 have zF:=sizeE_alloc W1 (.cells #[.int .i64 0,.int .i64 0] 28)
 generalize hWF:W1.alloc (.cells #[.int .i64 0,.int .i64 0] 28)=WF at *
 obtain ⟨c0,f0,c1,f1,hat,hk⟩:=res2 hF (.int .i64 0) (.int .i64 0)
 have k2:Keeps [] W1 ((WF.setCell ⟨W1.heap.size,0,none⟩ (.int .i64 0)).setCell ⟨W1.heap.size,1,none⟩ (.int .i64 0)):=kF.trans_new hk (fun i hi=>.inr (by simp only [List.mem_singleton] at hi;omega))
 have g0:=hat.cell 0
 have g1:=hat.cell 1
 simp at g0 g1
 have hM2:=hM.keeps0 k2
 have htp:=hide (tuples18_calls hM2.eng hfine hM2.cell hp (i:=1) (nm:=ba [112]) (cols:=[0,0]) rfl)
 rw [show [0,0].length=2 from rfl,hr3] at htp
 have K2:=hide k2
 clear hat hk hF kF k2 hM
 go_wp2_with fail
 refine htp.out.mono ?_
 rintro e W3 ⟨v,xs,rfl,hxs,hown,_,k3⟩
 have hl3:xs.length=3:=by have:=congrArg List.length hxs;simpa using this
 rw [hl3] at hown
 obtain ⟨av,cv,hv⟩:=ownE_len hown
 subst hv
 have hM3:=hM2.keeps0 k3
 have kA:=Keeps.alloc [] W3 (.cells #[.int .i64 0,.int .i64 2] 3)
 have hrA:=row2 W3 0 2
 have hMA:=hM3.keeps0 kA
 have hra:=hide (rank29_calls (cap:=2) hMA.eng hfine.ok hMA.cell hp hrA (works_tup (.inl rfl)))
 rw [hr1] at hra
 have Hk3:=hide (K2.out.trans k3)
 clear hown htp hxs hl3 c0 c1 f0 f1 g0 g1 k3
 simp only [List.length_cons,List.length_nil] at hra
 go_wp2_with fail
 refine hra.out.mono ?_
 rintro e W4 ⟨rfl,k4⟩
 have hM4:=hMA.keeps0 k4
 have kB:=Keeps.alloc [] W4 (.cells #[.int .i64 2,.int .i64 0] 3)
 have hrB:=row2 W4 2 0
 have hMB:=hM4.keeps0 kB
 have hrb:=hide (rank29_calls (cap:=2) hMB.eng hfine.ok hMB.cell hp hrB (works_tup (.inr rfl)))
 rw [hr2] at hrb
 simp only [List.length_cons,List.length_nil] at hrb
 have Hk4:=hide ((Hk3.out.trans kA).trans k4)
 go_wp2_with fail
 refine hrb.out.mono ?_
 rintro e W5 ⟨rfl,k5⟩
 go_wp2_with fail
 refine (hck.out _).mono ?_
 rintro e W6 ⟨rfl,k6⟩
 have kG:=Keeps.alloc [] W6 (.cells #[.int .i64 0,.int .i64 0] 28)
 have hG:=CellsAt.new W6 #[.int .i64 0,.int .i64 0] 28
 have zG:=sizeE_alloc W6 (.cells #[.int .i64 0,.int .i64 0] 28)
 generalize hWG:W6.alloc (.cells #[.int .i64 0,.int .i64 0] 28)=WG at *
 obtain ⟨c0,f0,c1,f1,hat,hk⟩:=res2 hG (.int .i64 7) (.int .i64 1)
 have g0:=hat.cell 0
 have g1:=hat.cell 1
 simp at g0 g1
 have Hfin:=hide ((((Hk4.out.trans kB).trans k5).trans k6).trans_new (kG.trans_new hk (fun i hi=>.inr (by simp only [List.mem_singleton] at hi;omega))) (fun i hi=>by simp at hi))
 clear hat hk hG kG hM4 hMB hMA hM3 hM2
 simp only [fltOf]
 go_wp2_with fail
 go_ret
 exact ⟨rfl,k1.trans Hfin.out⟩
end
section
theorem decG_val:∀ v:Fin 100,valTo (decG ((v:Nat):Int)) (decG ((v:Nat):Int)).size=((v:Nat):Int):=by decide +kernel
def nrmI (s:ByteArray):ByteArray:=if 0≤valTo s s.size∧valTo s s.size<100 then decG (valTo s s.size) else s
def nrm:Sg→Sg
 | .int s=>.int (nrmI s)
 | g=>g
theorem val_nrm (s:ByteArray):valTo (nrmI s) (nrmI s).size=valTo s s.size:=by
 unfold nrmI
 split
 ·rename_i h
  have:=decG_val ⟨(valTo s s.size).toNat,by omega⟩
  dsimp only at this
  rw [Int.toNat_of_nonneg h.1] at this
  exact this
 ·rfl
theorem nrm_int (s:ByteArray):∃ u,nrm (.int s)=.int u∧valTo u u.size=valTo s s.size:=⟨_,rfl,val_nrm s⟩
theorem nrmI_nrmI (s:ByteArray):nrmI (nrmI s)=nrmI s:=by
 have h:=val_nrm s
 by_cases c:0≤valTo s s.size∧valTo s s.size<100
 ·have e:nrmI s=decG (valTo s s.size):=if_pos c
  rw [nrmI,h,if_pos c,e]
 ·have e:nrmI s=s:=if_neg c
  rw [e,e]
theorem nrm_no {g:Sg} (h:isIntG g=false):nrm g=g:=by cases g <;> first | rfl | cases h
theorem num_nrm (g:Sg):numOf (nrm g)=numOf g:=by
 cases g with
 | int s=>obtain ⟨u,h1,h2⟩:=nrm_int s;rw [h1];exact h2
 | _=>rfl
theorem nrm_nrm (g:Sg):nrm (nrm g)=nrm g:=by
 cases g with
 | int s=>show Sg.int _=Sg.int _;rw [nrmI_nrmI]
 | _=>rfl
theorem prt_nrm (g:Sg):prt (nrm g)=prt g:=by
 cases g with
 | int s=>obtain ⟨u,h1,h2⟩:=nrm_int s;rw [h1];show decG _=decG _;rw [h2]
 | _=>rfl
def Kd (p:Sg→Bool):Prop:=∀ g,p (nrm g)=p g
theorem kd_of {p:Sg→Bool} (h:∀ s u:ByteArray,p (.int s)=p (.int u)):Kd p:=fun g=>by
 cases g with
 | int s=>obtain ⟨u,h1,_⟩:=nrm_int s;rw [h1];exact h _ _
 | _=>rfl
theorem kd_name:Kd isNameG:=kd_of fun _ _=>rfl
theorem kd_term:Kd isTermG:=kd_of fun _ _=>rfl
theorem kd_int:Kd isIntG:=kd_of fun _ _=>rfl
theorem kd_var:Kd isVarG:=kd_of fun _ _=>rfl
theorem kd_dom:Kd isDomG:=kd_of fun _ _=>rfl
theorem kd_rel:Kd isRelG:=kd_of fun _ _=>rfl
theorem kd_lp:Kd isLpG:=kd_of fun _ _=>rfl
theorem kd_rp:Kd isRpG:=kd_of fun _ _=>rfl
theorem kd_comma:Kd isCommaG:=kd_of fun _ _=>rfl
theorem kd_semi:Kd isSemiG:=kd_of fun _ _=>rfl
theorem kd_dot:Kd isDotG:=kd_of fun _ _=>rfl
theorem kd_bang:Kd isBangG:=kd_of fun _ _=>rfl
theorem kd_arrow:Kd isArrowG:=kd_of fun _ _=>rfl
theorem kd_fin:Kd isFinG:=kd_of fun _ _=>rfl
def nz (t:Tn):Tn:=⟨nrm t.g,0⟩
def nzE {A B:Type} (f:A→B):Except Nat A→Except Nat B
 | .error _=>.error 0
 | .ok a=>.ok (f a)
def nzTwo {A:Type} (f:A→A) (x:A×List Tn):A×List Tn:=(f x.1,x.2.map nz)
theorem takeG_nz {p:Sg→Bool} (hp:Kd p) (ts:List Tn):takeG p (ts.map nz)=nzE (nzTwo nz) (takeG p ts):=by
 cases ts with
 | nil=>rfl
 | cons t ts=>
  simp only [List.map_cons,takeG]
  rw [show p (nz t).g=p t.g from hp _]
  split <;> rfl
theorem sees_nz {p:Sg→Bool} (hp:Kd p) (ts:List Tn):sees p (ts.map nz)=sees p ts:=by
 cases ts with
 | nil=>rfl
 | cons t ts=>exact hp _
theorem restG_nz {p:Sg→Bool} (hp:Kd p) (k:Nat) (ts:List Tn):restG p k (ts.map nz)=nzE (nzTwo (List.map nz)) (restG p k ts):=by
 induction k generalizing ts with
 | zero=>rfl
 | succ k ih=>
  simp only [restG]
  rw [sees_nz kd_comma]
  split
  ·rw [←List.map_tail,takeG_nz hp]
   cases takeG p ts.tail with
   | error l=>rfl
   | ok x=>
    obtain ⟨t,us⟩:=x
    simp only [nzE,nzTwo]
    rw [ih]
    cases restG p k us <;> rfl
  ·rw [takeG_nz kd_rp]
   cases takeG isRpG ts <;> rfl
theorem listG_nz {p:Sg→Bool} (hp:Kd p) (ts:List Tn):listG p (ts.map nz)=nzE (nzTwo (List.map nz)) (listG p ts):=by
 unfold listG
 rw [takeG_nz kd_lp]
 cases takeG isLpG ts with
 | error l=>rfl
 | ok x=>
  obtain ⟨t,us⟩:=x
  simp only [nzE,nzTwo]
  rw [takeG_nz hp]
  cases takeG p us with
  | error l=>rfl
  | ok y=>
   obtain ⟨u,vs⟩:=y
   simp only [nzE,nzTwo]
   rw [List.length_map,restG_nz hp]
   cases restG p vs.length vs <;> rfl
def nzA (a:AtomI):AtomI:=⟨nz a.name,a.terms.map nz⟩
def nzL (l:LitI):LitI:=⟨nzA l.atom,l.no⟩
def nzI:ItemI→ItemI
 | .dom n i=>.dom (nz n) (nz i)
 | .rel n cs=>.rel (nz n) (cs.map nz)
 | .clause h ls=>.clause (nzA h) (ls.map nzL)
theorem atomG_nz (ts:List Tn):atomG (ts.map nz)=nzE (nzTwo nzA) (atomG ts):=by
 unfold atomG
 rw [takeG_nz kd_name]
 cases takeG isNameG ts with
 | error l=>rfl
 | ok x=>
  obtain ⟨t,us⟩:=x
  simp only [nzE,nzTwo]
  rw [listG_nz kd_term]
  cases listG isTermG us <;> rfl
theorem litG_nz (ts:List Tn):litG (ts.map nz)=nzE (nzTwo nzL) (litG ts):=by
 unfold litG
 rw [sees_nz kd_bang]
 split
 ·rw [←List.map_tail,atomG_nz]
  cases atomG ts.tail <;> rfl
 ·rw [atomG_nz]
  cases atomG ts <;> rfl
theorem litsG_nz (k:Nat) (ts:List Tn):litsG k (ts.map nz)=nzE (nzTwo (List.map nzL)) (litsG k ts):=by
 induction k generalizing ts with
 | zero=>rfl
 | succ k ih=>
  simp only [litsG]
  rw [sees_nz kd_comma]
  split
  ·rw [←List.map_tail,litG_nz]
   cases litG ts.tail with
   | error l=>rfl
   | ok x=>
    obtain ⟨t,us⟩:=x
    simp only [nzE,nzTwo]
    rw [ih]
    cases litsG k us <;> rfl
  ·rw [takeG_nz kd_dot]
   cases takeG isDotG ts <;> rfl
theorem bodyG_nz (ts:List Tn):bodyG (ts.map nz)=nzE (nzTwo (List.map nzL)) (bodyG ts):=by
 unfold bodyG
 rw [sees_nz kd_arrow]
 split
 ·rw [←List.map_tail,litG_nz]
  cases litG ts.tail with
  | error l=>rfl
  | ok x=>
   obtain ⟨t,us⟩:=x
   simp only [nzE,nzTwo]
   rw [List.length_map,litsG_nz]
   cases litsG us.length us <;> rfl
 ·rw [takeG_nz kd_dot]
  cases takeG isDotG ts <;> rfl
theorem itemG_nz (ts:List Tn):itemG (ts.map nz)=nzE (nzTwo nzI) (itemG ts):=by
 unfold itemG
 rw [sees_nz kd_dom,sees_nz kd_rel]
 split
 ·rw [←List.map_tail,takeG_nz kd_name]
  cases takeG isNameG ts.tail with
  | error l=>rfl
  | ok x=>
   obtain ⟨t,us⟩:=x
   simp only [nzE,nzTwo]
   rw [takeG_nz kd_int]
   cases takeG isIntG us with
   | error l=>rfl
   | ok y=>
    obtain ⟨u,vs⟩:=y
    simp only [nzE,nzTwo]
    rw [takeG_nz kd_semi]
    cases takeG isSemiG vs <;> rfl
 ·split
  ·rw [←List.map_tail,takeG_nz kd_name]
   cases takeG isNameG ts.tail with
   | error l=>rfl
   | ok x=>
    obtain ⟨t,us⟩:=x
    simp only [nzE,nzTwo]
    rw [listG_nz kd_name]
    cases listG isNameG us with
    | error l=>rfl
    | ok y=>
     obtain ⟨u,vs⟩:=y
     simp only [nzE,nzTwo]
     rw [takeG_nz kd_semi]
     cases takeG isSemiG vs <;> rfl
  ·rw [atomG_nz]
   cases atomG ts with
   | error l=>rfl
   | ok x=>
    obtain ⟨t,us⟩:=x
    simp only [nzE,nzTwo]
    rw [bodyG_nz]
    cases bodyG us <;> rfl
theorem itemsG_nz (k:Nat) (ts:List Tn):itemsG k (ts.map nz)=nzE (List.map nzI) (itemsG k ts):=by
 induction k generalizing ts with
 | zero=>rfl
 | succ k ih=>
  simp only [itemsG]
  rw [sees_nz kd_fin]
  split
  ·rfl
  ·rw [itemG_nz]
   cases itemG ts with
   | error l=>rfl
   | ok x=>
    obtain ⟨t,us⟩:=x
    simp only [nzE,nzTwo]
    rw [ih]
    cases itemsG k us <;> rfl
theorem items_same {k:Nat} {ts us:List Tn} (h:ts.map nz=us.map nz) {is:List ItemI} (hi:itemsG k ts=.ok is):∃ js,itemsG k us=.ok js∧js.map nzI=is.map nzI:=by
 have h1:=itemsG_nz k ts
 have h2:=itemsG_nz k us
 rw [←h,h1,hi] at h2
 cases hu:itemsG k us with
 | error l=>rw [hu] at h2;cases h2
 | ok js=>
  rw [hu] at h2
  simp only [nzE,Except.ok.injEq] at h2
  exact ⟨js,rfl,h2.symm⟩
end
section
def eLc (c:ClauseM):ClauseM:=⟨c.head,c.lits,0⟩
def eL (m:Mean):Mean:=⟨m.doms,m.rels,m.clauses.map eLc⟩
def nzF {A B:Type} (f:A→B):Except Flt A→Except Flt B
 | .error e=>.error (e.1,0)
 | .ok a=>.ok (f a)
theorem txt_nz {t:Tn} (h:isIntG t.g=false):txt (nz t).g=txt t.g:=by show txt (nrm t.g)=_;rw [nrm_no h]
theorem num_nz (t:Tn):numOf (nz t).g=numOf t.g:=num_nrm _
def FitA (a:AtomI):Prop:=isIntG a.name.g=false
def FitI:ItemI→Prop
 | .dom n _=>isIntG n.g=false
 | .rel n cs=>isIntG n.g=false∧∀ c∈cs,isIntG c.g=false
 | .clause h ls=>FitA h∧∀ l∈ls,FitA l.atom
theorem addDom_nz (m:Mean) {n i:Tn} (h:isIntG n.g=false):addDom (eL m) (nz n) (nz i)=nzF eL (addDom m n i):=by
 unfold addDom
 rw [show (eL m).doms=m.doms from rfl,show (eL m).taken=m.taken from rfl,txt_nz h,num_nz]
 split
 ·rfl
 ·split
  ·rfl
  ·split <;> rfl
theorem colsS_nz (m:Mean):∀ (cs:List Tn) (k:Nat),(∀ c∈cs,isIntG c.g=false)→colsS (eL m) k (cs.map nz)=nzF id (colsS m k cs)
 | [],k,_=>rfl
 | c :: cs,k,h=>by
  simp only [List.map_cons,colsS]
  rw [txt_nz (h c (by simp)),show (eL m).dom=m.dom from rfl,colsS_nz m cs (k+1) (fun d hd=>h d (by simp [hd]))]
  split
  ·rfl
  ·cases m.dom (txt c.g) with
   | none=>rfl
   | some d=>
    dsimp only
    cases colsS m (k+1) cs <;> rfl
theorem addRel_nz (m:Mean) {n:Tn} {cs:List Tn} (h:isIntG n.g=false) (hc:∀ c∈cs,isIntG c.g=false):addRel (eL m) (nz n) (cs.map nz)=nzF eL (addRel m n cs):=by
 unfold addRel
 rw [show (eL m).rels=m.rels from rfl,show (eL m).taken=m.taken from rfl,txt_nz h,colsS_nz m cs 0 hc]
 split
 ·rfl
 ·split
  ·rfl
  ·cases colsS m 0 cs <;> rfl
theorem var_noInt {g:Sg} (h:isVarG g=true):isIntG g=false:=by cases g <;> first | rfl | cases h
theorem termS_nz (m:Mean) (sc:Scope) (t:Tn) (d:Nat):termS (eL m) sc (nz t) d=nzF id (termS m sc t d):=by
 unfold termS
 rw [show isVarG (nz t).g=isVarG t.g from kd_var _,show (eL m).size=m.size from rfl,num_nz]
 by_cases hv:isVarG t.g=true
 ·rw [if_pos hv,if_pos hv,txt_nz (var_noInt hv)]
  cases placeIn sc (txt t.g) with
  | none=>
   dsimp only
   split <;> rfl
  | some p=>
   dsimp only
   split <;> rfl
 ·rw [if_neg hv,if_neg hv]
  split <;> rfl
theorem termsS_nz (m:Mean):∀ (ts:List Tn) (sc:Scope) (ds:List Nat),termsS (eL m) sc (ts.map nz) ds=nzF id (termsS m sc ts ds)
 | [],sc,ds=>by cases ds <;> rfl
 | t :: ts,sc,[]=>rfl
 | t :: ts,sc,d :: ds=>by
  simp only [List.map_cons,termsS]
  rw [termS_nz]
  cases termS m sc t d with
  | error f=>rfl
  | ok x=>
   obtain ⟨x,sc'⟩:=x
   simp only [nzF,id]
   rw [termsS_nz m ts sc' ds]
   cases termsS m sc' ts ds <;> rfl
theorem atomS_nz (m:Mean) (sc:Scope) {a:AtomI} (h:FitA a):atomS (eL m) sc (nzA a)=nzF id (atomS m sc a):=by
 unfold atomS
 rw [show (eL m).rel=m.rel from rfl,show (eL m).cols=m.cols from rfl,show (nzA a).name=nz a.name from rfl,txt_nz h,show (nzA a).terms=a.terms.map nz from rfl,List.length_map]
 cases m.rel (txt a.name.g) with
 | none=>rfl
 | some r=>
  dsimp only
  rw [termsS_nz]
  split
  ·rfl
  ·cases termsS m sc a.terms (m.cols r) <;> rfl
theorem litsS_nz (m:Mean):∀ (ls:List LitI) (sc:Scope) (k:Nat),(∀ l∈ls,FitA l.atom)→litsS (eL m) sc k (ls.map nzL)=nzF id (litsS m sc k ls)
 | [],sc,k,_=>rfl
 | l :: ls,sc,k,h=>by
  simp only [List.map_cons,litsS]
  rw [show (nzL l).atom=nzA l.atom from rfl,atomS_nz m sc (h l (by simp))]
  split
  ·rfl
  ·cases atomS m sc l.atom with
   | error f=>rfl
   | ok x=>
    obtain ⟨x,sc'⟩:=x
    simp only [nzF,id]
    rw [litsS_nz m ls sc' (k+1) (fun q hq=>h q (by simp [hq]))]
    cases litsS m sc' (k+1) ls <;> rfl
theorem addClause_nz (m:Mean) {h:AtomI} {ls:List LitI} (h1:FitA h) (h2:∀ l∈ls,FitA l.atom):addClause (eL m) (nzA h) (ls.map nzL)=nzF eL (addClause m h ls):=by
 unfold addClause
 rw [show (eL m).clauses.length=m.clauses.length from List.length_map _,atomS_nz m [] h1]
 split
 ·rfl
 ·cases atomS m [] h with
  | error f=>rfl
  | ok x=>
   obtain ⟨x,sc'⟩:=x
   simp only [nzF,id]
   rw [litsS_nz m ls sc' 0 h2]
   cases litsS m sc' 0 ls with
   | error f=>rfl
   | ok y=>
    obtain ⟨y,sc''⟩:=y
    simp [nzF,eL,eLc,nzA,nz]
theorem addItem_nz (m:Mean) {i:ItemI} (h:FitI i):addItem (eL m) (nzI i)=nzF eL (addItem m i):=by
 cases i with
 | dom n i=>exact addDom_nz m h
 | rel n cs=>exact addRel_nz m h.1 h.2
 | clause a ls=>exact addClause_nz m h.1 h.2
theorem senseS_nz:∀ (is:List ItemI) (m:Mean),(∀ i∈is,FitI i)→senseS (eL m) (is.map nzI)=nzF eL (senseS m is)
 | [],m,_=>rfl
 | i :: is,m,h=>by
  simp only [List.map_cons,senseS]
  rw [addItem_nz m (h i (by simp))]
  cases addItem m i with
  | error f=>rfl
  | ok m'=>exact senseS_nz is m' (fun j hj=>h j (by simp [hj]))
theorem sense_same {is js:List ItemI} (h:js.map nzI=is.map nzI) (h1:∀ i∈is,FitI i) (h2:∀ i∈js,FitI i) {m:Mean} (hs:senseS emptyM is=.ok m):∃ m',senseS emptyM js=.ok m'∧eL m' = eL m:=by
 have e1:=senseS_nz is emptyM h1
 have e2:=senseS_nz js emptyM h2
 rw [h,e1,hs] at e2
 cases hj:senseS emptyM js with
 | error f=>rw [hj] at e2;cases e2
 | ok m'=>
  rw [hj] at e2
  simp only [nzF,Except.ok.injEq] at e2
  exact ⟨m',rfl,e2.symm⟩
theorem restG_all {p:Sg→Bool} {k:Nat} {ts us r:List Tn} (h:restG p k ts=.ok (r,us)):∀ t∈r,p t.g=true:=by
 induction k generalizing ts us r with
 | zero=>cases h;intro t ht;cases ht
 | succ k ih=>
  simp only [restG] at h
  split at h
  ·split at h
   ·cases h
   ·rename_i t us' ht
    split at h
    ·cases h
    ·rename_i r' vs hr
     cases h
     intro u hu
     rcases List.mem_cons.1 hu with rfl | hu
     ·exact takeG_is ht
     ·exact ih hr u hu
  ·split at h
   ·cases h
   ·cases h
    intro t ht;cases ht
theorem listG_all {p:Sg→Bool} {ts us r:List Tn} (h:listG p ts=.ok (r,us)):∀ t∈r,p t.g=true:=by
 unfold listG at h
 split at h
 ·cases h
 ·split at h
  ·cases h
  ·rename_i h2
   split at h
   ·cases h
   ·rename_i h3
    cases h
    intro u hu
    rcases List.mem_cons.1 hu with rfl | hu
    ·exact takeG_is h2
    ·exact restG_all h3 u hu
theorem atomG_fit {ts us:List Tn} {a:AtomI} (h:atomG ts=.ok (a,us)):FitA a:=by
 unfold atomG at h
 split at h
 ·cases h
 ·rename_i h1
  split at h
  ·cases h
  ·cases h
   exact name_noInt (takeG_is h1)
theorem litG_fit {ts us:List Tn} {l:LitI} (h:litG ts=.ok (l,us)):FitA l.atom:=by
 unfold litG at h
 split at h
 ·split at h
  ·cases h
  ·rename_i h1;cases h;exact atomG_fit (a:=_) h1
 ·split at h
  ·cases h
  ·rename_i h1;cases h;exact atomG_fit (a:=_) h1
theorem litsG_fit {k:Nat} {ts us:List Tn} {r:List LitI} (h:litsG k ts=.ok (r,us)):∀ l∈r,FitA l.atom:=by
 induction k generalizing ts us r with
 | zero=>cases h;intro t ht;cases ht
 | succ k ih=>
  simp only [litsG] at h
  split at h
  ·split at h
   ·cases h
   ·rename_i h1
    split at h
    ·cases h
    ·rename_i h2
     cases h
     intro u hu
     rcases List.mem_cons.1 hu with rfl | hu
     ·exact litG_fit h1
     ·exact ih h2 u hu
  ·split at h
   ·cases h
   ·cases h
    intro t ht;cases ht
theorem bodyG_fit {ts us:List Tn} {r:List LitI} (h:bodyG ts=.ok (r,us)):∀ l∈r,FitA l.atom:=by
 unfold bodyG at h
 split at h
 ·split at h
  ·cases h
  ·rename_i h1
   split at h
   ·cases h
   ·rename_i h2
    cases h
    intro u hu
    rcases List.mem_cons.1 hu with rfl | hu
    ·exact litG_fit h1
    ·exact litsG_fit h2 u hu
 ·split at h
  ·cases h
  ·cases h
   intro t ht;cases ht
theorem itemG_fit {ts us:List Tn} {i:ItemI} (h:itemG ts=.ok (i,us)):FitI i:=by
 unfold itemG at h
 split at h
 ·split at h
  ·cases h
  ·rename_i h1
   split at h
   ·cases h
   ·split at h
    ·cases h
    ·cases h
     exact name_noInt (takeG_is h1)
 ·split at h
  ·split at h
   ·cases h
   ·rename_i h1
    split at h
    ·cases h
    ·rename_i h2
     split at h
     ·cases h
     ·cases h
      exact ⟨name_noInt (takeG_is h1),fun c hc=>name_noInt (listG_all h2 c hc)⟩
  ·split at h
   ·cases h
   ·rename_i h1
    split at h
    ·cases h
    ·rename_i h2
     cases h
     exact ⟨atomG_fit h1,bodyG_fit h2⟩
theorem itemsG_fit {k:Nat} {ts:List Tn} {is:List ItemI} (h:itemsG k ts=.ok is):∀ i∈is,FitI i:=by
 induction k generalizing ts is with
 | zero=>cases h;intro t ht;cases ht
 | succ k ih=>
  simp only [itemsG] at h
  split at h
  ·cases h;intro t ht;cases ht
  ·split at h
   ·cases h
   ·rename_i h1
    split at h
    ·cases h
    ·rename_i h2
     cases h
     intro u hu
     rcases List.mem_cons.1 hu with rfl | hu
     ·exact itemG_fit h1
     ·exact ih h2 u hu
theorem firstC_nil {p:ClauseM→Bool}:∀ {cs:List ClauseM},firstC p cs=none↔∀ c∈cs,p c=false
 | []=>by simp [firstC]
 | c :: cs=>by
  rw [firstC]
  cases hp:p c with
  | true=>simp [hp]
  | false=>simp [hp,firstC_nil (cs:=cs)]
theorem edges_eL (m:Mean):edgesM (eL m).clauses=edgesM m.clauses:=by
 show edgesM (m.clauses.map eLc)=_
 unfold edgesM
 rw [List.flatMap_map]
 rfl
theorem later_eL (m:Mean):(∃ q,laterS (eL m)=.ok q)↔∃ q,laterS m=.ok q:=by
 have hp:∀ (p:ClauseM→Bool),(∀ c,p (eLc c)=p c)→(firstC p (eL m).clauses=none↔firstC p m.clauses=none):=fun p h=>by
  rw [firstC_nil,firstC_nil]
  show (∀ c∈m.clauses.map eLc,p c=false)↔_
  simp only [List.mem_map,forall_exists_index,and_imp,forall_apply_eq_imp_iff₂,h]
 have h1:=hp unsafeM (fun _=>rfl)
 have h2:=hp (circleC m.rels.length (edgesM m.clauses)) (fun _=>rfl)
 have e:∀ m:Mean,(∃ q,laterS m=.ok q)↔firstC unsafeM m.clauses=none∧firstC (circleC m.rels.length (edgesM m.clauses)) m.clauses=none:=fun m=>by
  unfold laterS
  cases firstC unsafeM m.clauses with
  | some l=>simp
  | none=>
   cases firstC (circleC m.rels.length (edgesM m.clauses)) m.clauses <;> simp
 rw [e,e,edges_eL,show (eL m).rels=m.rels from rfl,h1,h2]
end
section
open Go.RowKit
theorem all_ltr {q:Int→Bool} {L:List UInt8} (h:∀ i,i<L.length→q (ltr (ba L) i)=true):∀ c∈L,q (cI c)=true:=fun c hc=>by
 obtain ⟨i,hi,e⟩:=List.getElem_of_mem hc
 have:=h i hi
 rw [ba_ltr,List.getElem?_eq_getElem hi,e] at this
 exact this
theorem ba_of (s:ByteArray):∃ L,s=ba L:=⟨_,ba_ext rfl⟩
theorem cutG_ok {s:ByteArray} (h0:0<s.size) {g:Sg} {n:Nat} (h:cutG s=some (g,n)):tokOk g=true:=by
 unfold cutG at h
 split at h
 ·rename_i hl
  split at h
  ·rename_i h6
   cases h
   have hp:=spanOf_pos (p:=isWord) h0 (by unfold isWord;rw [hl];rfl)
   have hle:=spanOf_le isWord s
   have hall:∀ i,i<spanOf isWord s→isWord (ltr (s.extract 0 (spanOf isWord s)) i)=true:=fun i hi=>by
    rw [ltr_pre hle hi]
    exact spanFrom_all (i:=0) (k:=s.size) (by omega) hi
   have hlow:isLow (ltr (s.extract 0 (spanOf isWord s)) 0)=true:=by rw [ltr_pre hle (by omega)];exact hl
   have hsz:(s.extract 0 (spanOf isWord s)).size=spanOf isWord s:=by rw [ByteArray.size_extract];omega
   generalize spanOf isWord s=k at *
   obtain ⟨L,hL⟩:=ba_of (s.extract 0 k)
   rw [hL] at hall hlow hsz ⊢
   rw [ba_size] at hsz
   unfold wordG
   rw [show (ba L).toList=L from lit_toList L]
   split
   ·rfl
   ·rename_i hd
    split
    ·rfl
    ·rename_i hr
     cases L with
     | nil=>simp at hsz;omega
     | cons b l=>
      rw [ba_ltr0] at hlow
      have hw:=all_ltr (q:=isWord) (L:=b :: l) (fun i hi=>hall i (by omega))
      show (isLow (cI b) && (b :: l).all (fun c=>isWord (cI c)) && decide (l.length<6) && !((b :: l) == [100,111,109]) && !((b :: l) == [114,101,108]))=true
      have e1:isLow (cI b)=true:=hlow
      have e2:(b :: l).all (fun c=>isWord (cI c))=true:=List.all_eq_true.2 hw
      have e3:decide (l.length<6)=true:=by simp at hsz ⊢;omega
      have e4:((b :: l) == [100,111,109])=false:=by simpa using hd
      have e5:((b :: l) == [114,101,108])=false:=by simpa using hr
      rw [e1,e2,e3,e4,e5];rfl
  ·cases h
 ·split at h
  ·rename_i hc
   cases h
   have hle:=spanOf_le isDig (s.extract 1 (min 2 s.size))
   rw [ByteArray.size_extract] at hle
   have hdg:∀ i,i<spanOf isDig (s.extract 1 (min 2 s.size))→isDig (ltr (s.extract 1 (min 2 s.size)) i)=true:=fun i hi=>spanFrom_all (i:=0) (by omega) hi
   have hcap:isCap (ltr (s.extract 0 (1+spanOf isDig (s.extract 1 (min 2 s.size)))) 0)=true:=by rw [ltr_pre (by omega) (by omega)];exact hc
   have hsz:(s.extract 0 (1+spanOf isDig (s.extract 1 (min 2 s.size)))).size=1+spanOf isDig (s.extract 1 (min 2 s.size)):=by rw [ByteArray.size_extract];omega
   have hone:1≤spanOf isDig (s.extract 1 (min 2 s.size))→isDig (ltr (s.extract 0 (1+spanOf isDig (s.extract 1 (min 2 s.size)))) 1)=true:=fun h1=>by
    have:=hdg 0 (by omega)
    rw [ltr_pre (by omega) (by omega)]
    have e:ltr (s.extract 1 (min 2 s.size)) 0=ltr s 1:=by
     unfold ltr
     rw [dif_pos (by rw [ByteArray.size_extract];omega),dif_pos (by omega),ByteArray.getElem_extract]
    rw [e] at this
    exact this
   have h2:spanOf isDig (s.extract 1 (min 2 s.size))≤1:=by omega
   generalize spanOf isDig (s.extract 1 (min 2 s.size))=k at *
   obtain ⟨L,hL⟩:=ba_of (s.extract 0 (1+k))
   rw [hL] at hcap hsz hone ⊢
   rw [ba_size] at hsz
   match L,hsz,hcap,hone with
   | [b],_,hcap,_=>rw [ba_ltr0] at hcap;exact hcap
   | [b,c],hsz,hcap,hone=>
    rw [ba_ltr0] at hcap
    have:=hone (by simp at hsz;omega)
    rw [ba_ltr] at this
    show (isCap (cI b) && isDig (cI c))=true
    rw [show isCap (cI b)=true from hcap]
    exact this
   | [],hsz,_,_=>simp at hsz;omega
   | _ :: _ :: _ :: _,hsz,_,_=>simp at hsz;omega
  ·split at h
   ·rename_i hd
    split at h
    ·rename_i h2
     cases h
     have hp:=spanOf_pos (p:=isDig) h0 hd
     have hle:=spanOf_le isDig s
     have hall:∀ i,i<spanOf isDig s→isDig (ltr (s.extract 0 (spanOf isDig s)) i)=true:=fun i hi=>by
      rw [ltr_pre hle hi]
      exact spanFrom_all (i:=0) (k:=s.size) (by omega) hi
     have hsz:(s.extract 0 (spanOf isDig s)).size=spanOf isDig s:=by rw [ByteArray.size_extract];omega
     generalize spanOf isDig s=k at *
     obtain ⟨L,hL⟩:=ba_of (s.extract 0 k)
     rw [hL] at hall hsz ⊢
     rw [ba_size] at hsz
     have hw:=all_ltr (q:=isDig) (L:=L) (fun i hi=>hall i (by omega))
     show (decide (L≠[]) && L.all (fun c=>isDig (cI c)) && decide (L.length≤2))=true
     have e1:decide (L≠[])=true:=by rw [decide_eq_true_eq];intro e;rw [e] at hsz;simp at hsz;omega
     have e2:L.all (fun c=>isDig (cI c))=true:=List.all_eq_true.2 hw
     have e3:decide (L.length≤2)=true:=by simp;omega
     rw [e1,e2,e3];rfl
    ·cases h
   ·split at h
    ·cases h
     unfold markG
     repeat' split
     all_goals rfl
    ·split at h
     ·cases h;rfl
     ·cases h
theorem scanT_ok {k:Nat} {s:ByteArray} {l:Nat} {ts:List Tn} {m:Nat} (h:scanT k s l=.inl (ts,m)):∀ t∈ts,tokOk t.g=true:=by
 induction k generalizing s l ts m with
 | zero=>cases h;intro t ht;cases ht
 | succ k ih=>
  simp only [scanT] at h
  split at h
  ·cases h;intro t ht;cases ht
  ·rename_i hz
   split at h
   ·exact ih h
   ·split at h
    ·exact ih h
    ·split at h
     ·exact ih h
     ·split at h
      ·cases h
      ·rename_i g n hc
       split at h
       ·rename_i us m' hr
        cases h
        intro t ht
        rcases List.mem_cons.1 ht with rfl | ht
        ·exact cutG_ok (by omega) hc
        ·exact ih hr t ht
       ·cases h
theorem int_val {s:ByteArray} (h:tokOk (.int s)=true):0≤valTo s s.size∧valTo s s.size<100:=by
 obtain ⟨L,rfl⟩:=ba_of s
 simp only [tokOk,Bool.and_eq_true,decide_eq_true_eq,List.all_eq_true] at h
 obtain ⟨⟨h1,h2⟩,h3⟩:=h
 have dg:∀ c:UInt8,isDig (cI c)=true→48≤cI c∧cI c≤57:=fun c hc=>by
  simpa [isDig] using hc
 have l0:∀ (L:List UInt8) (i:Nat),ltrG (ba L) i=ltr (ba L) i:=fun L i=>rfl
 match L,h1,h2,h3 with
 | [],h1,_,_=>exact absurd rfl h1
 | [b],_,h2,_=>
  have:=dg b (h2 b (by simp [ba]))
  show 0≤10 * 0+(ltrG (ba [b]) 0 - 48)∧10 * 0+(ltrG (ba [b]) 0 - 48)<100
  rw [l0,ba_ltr0];unfold cI at this;omega
 | [b,c],_,h2,_=>
  have h4:=dg b (h2 b (by simp [ba]))
  have h5:=dg c (h2 c (by simp [ba]))
  have e:ltrG (ba [b,c]) 1=cI c:=by rw [l0,ba_ltr];rfl
  show 0≤10 * (10 * 0+(ltrG (ba [b,c]) 0 - 48))+(ltrG (ba [b,c]) 1 - 48)∧10 * (10 * 0+(ltrG (ba [b,c]) 0 - 48))+(ltrG (ba [b,c]) 1 - 48)<100
  rw [e,l0,ba_ltr0];unfold cI at *;omega
 | _ :: _ :: _ :: _,_,_,h3=>simp [ba] at h3
theorem dec_ok:∀ v:Fin 100,tokOk (.int (decG ((v:Nat):Int)))=true:=by decide +kernel
theorem nrm_dec {s:ByteArray} (h:tokOk (.int s)=true):nrm (.int s)=.int (decG (valTo s s.size)):=by
 show Sg.int (nrmI s)=_
 unfold nrmI
 rw [if_pos (int_val h)]
theorem nrm_ok {g:Sg} (h:tokOk g=true):tokOk (nrm g)=true:=by
 cases g with
 | int s=>
  rw [nrm_dec h]
  have hv:=int_val h
  have:=dec_ok ⟨(valTo s s.size).toNat,by omega⟩
  dsimp only at this
  rw [Int.toNat_of_nonneg hv.1] at this
  exact this
 | _=>exact h
end
end Go.Proofs.YtgjomknpjigkhaaGreatDoor
