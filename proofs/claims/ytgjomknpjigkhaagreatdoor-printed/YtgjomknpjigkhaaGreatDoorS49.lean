import Derived.Test.YtgjomknpjigkhaaGreatDoorS48
namespace Go.Proofs.YtgjomknpjigkhaaGreatDoor
set_option maxRecDepth 100000
set_option maxHeartbeats 4000000
section
open Go.RowKit
def prtP:Sg→List Pc
 | .dom=>[.t .dom,.sp]
 | .rel=>[.t .rel,.sp]
 | .comma=>[.t .comma,.sp]
 | .arrow=>[.sp,.t .arrow,.sp]
 | .semi=>[.t .semi,.nl]
 | .dot=>[.t .dot,.nl]
 | .fin=>[]
 | g=>[.t g]
def pc1 (last:Bool) (g:Sg):List Pc:=(if isIntG g && last then [.sp] else [])++prtP (nrm g)
def pcs (last:Bool):List Tn→List Pc
 | []=>[]
 | t :: ts=>pc1 last t.g++pcs (isNameG t.g) ts
theorem ba_cat (a b:List UInt8):ba (a++b)=ba a++ba b:=by
 symm
 apply ba_ext
 simp [ba]
theorem prtP_bytes {g:Sg} (h:tokOk g=true):ba (bytesP (prtP (nrm g)))=prt g:=by
 cases g with
 | int s=>
  rw [nrm_dec h]
  show ba (bytesP [.t (.int (decG (valTo s s.size)))])=decG (valTo s s.size)
  symm
  apply ba_ext
  simp [bytesP,pcB,tokB,txt]
 | name s=>
  show ba (bytesP [.t (.name s)])=s
  symm
  apply ba_ext
  simp [bytesP,pcB,tokB,txt]
 | var s=>
  show ba (bytesP [.t (.var s)])=s
  symm
  apply ba_ext
  simp [bytesP,pcB,tokB,txt]
 | fin=>cases h
 | _=>rfl
theorem pcs_bytes:∀ (ts:List Tn) (last:Bool),(∀ t∈ts,tokOk t.g=true)→ba (bytesP (pcs last ts))=progOut last ts
 | [],_,_=>rfl
 | t :: ts,last,h=>by
  simp only [pcs,progOut]
  rw [bytesP_append,ba_cat,pcs_bytes ts _ (fun u hu=>h u (by simp [hu]))]
  congr 1
  unfold pc1 prog1
  rw [bytesP_append,ba_cat,prtP_bytes (h t (by simp))]
  cases isIntG t.g && last with
  | true=>rfl
  | false=>
   show ba []++prt t.g=prt t.g
   exact ByteArray.empty_append
theorem prtP_toks {g:Sg} (h:tokOk g=true) (l:Nat):(toksP (prtP (nrm g)) l).map nz=[⟨nrm g,0⟩]:=by
 cases g with
 | int s=>show [nz ⟨nrm (.int s),l⟩]=_;unfold nz;rw [nrm_nrm]
 | fin=>cases h
 | _=>rfl
theorem pcs_toks:∀ (ts:List Tn) (last:Bool) (l:Nat),(∀ t∈ts,tokOk t.g=true)→(toksP (pcs last ts) l).map nz=ts.map nz
 | [],_,_,_=>rfl
 | t :: ts,last,l,h=>by
  simp only [pcs]
  rw [toksP_app,List.map_append,pcs_toks ts _ _ (fun u hu=>h u (by simp [hu])),List.map_cons]
  have e:(toksP (pc1 last t.g) l).map nz=[nz t]:=by
   unfold pc1
   rw [toksP_app]
   have e1:toksP (if (isIntG t.g && last)=true then [Pc.sp] else []) l=[]:=by split <;> rfl
   have e2:lineP (if (isIntG t.g && last)=true then [Pc.sp] else []) l=l:=by split <;> rfl
   rw [e1,e2,List.nil_append]
   exact prtP_toks (h t (by simp)) l
  rw [e];rfl
def isW (g:Sg):Bool:=isNameG g || isVarG g || isIntG g
def isW2 (g:Sg):Bool:=isW g || isDomG g || isRelG g
def okNext (t u:Sg):Bool:=!isW t || !isW2 u || (isNameG t && isIntG u)
def chn:List Tn→Bool
 | []=>true
 | [_]=>true
 | t :: u :: ts=>okNext t.g u.g && chn (u :: ts)
def HeadNo (ts:List Tn):Prop:=∀ u,ts.head?=some u→isW2 u.g=false
theorem chn_sign {t:Tn} {ts:List Tn} (h:isW t.g=false) (hc:chn ts=true):chn (t :: ts)=true:=by
 cases ts with
 | nil=>rfl
 | cons u ts=>simp only [chn,okNext,h,hc];rfl
theorem chn_word {t:Tn} {ts:List Tn} (h:HeadNo ts) (hc:chn ts=true):chn (t :: ts)=true:=by
 cases ts with
 | nil=>rfl
 | cons u ts=>simp only [chn,okNext,h u rfl,hc];simp
theorem takeG_cons {p:Sg→Bool} {ts us:List Tn} {t:Tn} (h:takeG p ts=.ok (t,us)):ts=t :: us∧p t.g=true:=by
 refine ⟨?_,takeG_is h⟩
 cases ts with
 | nil=>cases h
 | cons x ts=>
  simp only [takeG] at h
  split at h
  ·cases h;rfl
  ·cases h
theorem sees_head {p:Sg→Bool} {ts:List Tn} (h:sees p ts=true):∃ t,ts=t :: ts.tail∧p t.g=true:=by
 cases ts with
 | nil=>cases h
 | cons t ts=>exact ⟨t,rfl,h⟩
def Sgn (p:Sg→Bool):Prop:=∀ g,p g=true→isW2 g=false
theorem Sgn.w {p:Sg→Bool} (h:Sgn p) {g:Sg} (hg:p g=true):isW g=false:=by
 have:=h g hg
 unfold isW2 at this
 cases hw:isW g with
 | false=>rfl
 | true=>rw [hw] at this;simp at this
theorem sgn_lp:Sgn isLpG:=fun g h=>by cases g <;> first | rfl | cases h
theorem sgn_rp:Sgn isRpG:=fun g h=>by cases g <;> first | rfl | cases h
theorem sgn_comma:Sgn isCommaG:=fun g h=>by cases g <;> first | rfl | cases h
theorem sgn_semi:Sgn isSemiG:=fun g h=>by cases g <;> first | rfl | cases h
theorem sgn_dot:Sgn isDotG:=fun g h=>by cases g <;> first | rfl | cases h
theorem sgn_bang:Sgn isBangG:=fun g h=>by cases g <;> first | rfl | cases h
theorem sgn_arrow:Sgn isArrowG:=fun g h=>by cases g <;> first | rfl | cases h
theorem Sgn.head {p:Sg→Bool} (h:Sgn p) {t:Tn} {ts:List Tn} (ht:p t.g=true):HeadNo (t :: ts):=fun u hu=>by
 simp only [List.head?_cons,Option.some.injEq] at hu
 subst hu
 exact h _ ht
theorem restG_chn {p:Sg→Bool} {k:Nat} {ts us r:List Tn} (hk:ts.length≤k) (h:restG p k ts=.ok (r,us)):HeadNo ts∧(chn us=true→chn ts=true):=by
 induction k generalizing ts us r with
 | zero=>
  obtain rfl:ts=[]:=List.eq_nil_of_length_eq_zero (by omega)
  exact ⟨fun u hu=>(by cases hu),fun _=>rfl⟩
 | succ k ih=>
  simp only [restG] at h
  split at h
  ·rename_i hc
   obtain ⟨c,e,hcg⟩:=sees_head hc
   split at h
   ·cases h
   ·rename_i t us' ht
    obtain ⟨e2,_⟩:=takeG_cons ht
    split at h
    ·cases h
    ·rename_i r' vs hr
     cases h
     have hl:us'.length≤k:=by
      have:=congrArg List.length e2
      rw [List.length_tail,List.length_cons] at this
      omega
     obtain ⟨i1,i2⟩:=ih hl hr
     rw [e,e2]
     exact ⟨sgn_comma.head hcg,fun hu=>chn_sign (sgn_comma.w hcg) (chn_word i1 (i2 hu))⟩
  ·split at h
   ·cases h
   ·rename_i t us' ht
    cases h
    obtain ⟨e2,h2⟩:=takeG_cons ht
    rw [e2]
    exact ⟨sgn_rp.head h2,fun hu=>chn_sign (sgn_rp.w h2) hu⟩
theorem listG_chn {p:Sg→Bool} {ts us r:List Tn} (h:listG p ts=.ok (r,us)):HeadNo ts∧(chn us=true→chn ts=true):=by
 unfold listG at h
 split at h
 ·cases h
 ·rename_i t1 us1 h1
  obtain ⟨e1,g1⟩:=takeG_cons h1
  split at h
  ·cases h
  ·rename_i t2 us2 h2
   obtain ⟨e2,_⟩:=takeG_cons h2
   split at h
   ·cases h
   ·rename_i h3
    cases h
    obtain ⟨i1,i2⟩:=restG_chn (Nat.le_refl _) h3
    rw [e1,e2]
    exact ⟨sgn_lp.head g1,fun hu=>chn_sign (sgn_lp.w g1) (chn_word i1 (i2 hu))⟩
theorem atomG_chn {ts us:List Tn} {a:AtomI} (h:atomG ts=.ok (a,us)) (hu:chn us=true):chn ts=true:=by
 unfold atomG at h
 split at h
 ·cases h
 ·rename_i t1 us1 h1
  obtain ⟨e1,g1⟩:=takeG_cons h1
  split at h
  ·cases h
  ·rename_i h2
   cases h
   obtain ⟨i1,i2⟩:=listG_chn h2
   rw [e1]
   exact chn_word i1 (i2 hu)
theorem litG_chn {ts us:List Tn} {l:LitI} (h:litG ts=.ok (l,us)) (hu:chn us=true):chn ts=true:=by
 unfold litG at h
 split at h
 ·rename_i hc
  obtain ⟨c,e,hcg⟩:=sees_head hc
  split at h
  ·cases h
  ·rename_i h1
   cases h
   rw [e]
   exact chn_sign (sgn_bang.w hcg) (atomG_chn h1 hu)
 ·split at h
  ·cases h
  ·rename_i h1
   cases h
   exact atomG_chn h1 hu
theorem litsG_chn {k:Nat} {ts us:List Tn} {r:List LitI} (h:litsG k ts=.ok (r,us)) (hu:chn us=true):chn ts=true:=by
 induction k generalizing ts us r with
 | zero=>cases h;exact hu
 | succ k ih=>
  simp only [litsG] at h
  split at h
  ·rename_i hc
   obtain ⟨c,e,hcg⟩:=sees_head hc
   split at h
   ·cases h
   ·rename_i ht
    split at h
    ·cases h
    ·rename_i hr
     cases h
     rw [e]
     exact chn_sign (sgn_comma.w hcg) (litG_chn ht (ih hr hu))
  ·split at h
   ·cases h
   ·rename_i ht
    cases h
    obtain ⟨e2,h2⟩:=takeG_cons ht
    rw [e2]
    exact chn_sign (sgn_dot.w h2) hu
theorem bodyG_chn {ts us:List Tn} {r:List LitI} (h:bodyG ts=.ok (r,us)) (hu:chn us=true):chn ts=true:=by
 unfold bodyG at h
 split at h
 ·rename_i hc
  obtain ⟨c,e,hcg⟩:=sees_head hc
  split at h
  ·cases h
  ·rename_i ht
   split at h
   ·cases h
   ·rename_i hr
    cases h
    rw [e]
    exact chn_sign (sgn_arrow.w hcg) (litG_chn ht (litsG_chn hr hu))
 ·split at h
  ·cases h
  ·rename_i ht
   cases h
   obtain ⟨e2,h2⟩:=takeG_cons ht
   rw [e2]
   exact chn_sign (sgn_dot.w h2) hu
theorem dom_noW {g:Sg} (h:isDomG g=true):isW g=false:=by cases g <;> first | rfl | cases h
theorem rel_noW {g:Sg} (h:isRelG g=true):isW g=false:=by cases g <;> first | rfl | cases h
theorem itemG_chn {ts us:List Tn} {i:ItemI} (h:itemG ts=.ok (i,us)) (hu:chn us=true):chn ts=true:=by
 unfold itemG at h
 split at h
 ·rename_i hc
  obtain ⟨c,e,hcg⟩:=sees_head hc
  split at h
  ·cases h
  ·rename_i t1 us1 h1
   obtain ⟨e1,g1⟩:=takeG_cons h1
   split at h
   ·cases h
   ·rename_i t2 us2 h2
    obtain ⟨e2,g2⟩:=takeG_cons h2
    split at h
    ·cases h
    ·rename_i t3 us3 h3
     obtain ⟨e3,g3⟩:=takeG_cons h3
     cases h
     rw [e,e1,e2,e3]
     refine chn_sign (dom_noW hcg) ?_
     have hn:okNext t1.g t2.g=true:=by unfold okNext;rw [g1,g2];simp
     have hr:chn (t2 :: t3 :: us)=true:=chn_word (sgn_semi.head g3) (chn_sign (sgn_semi.w g3) hu)
     simp only [chn,hn,Bool.true_and]
     exact hr
 ·split at h
  ·rename_i hc
   obtain ⟨c,e,hcg⟩:=sees_head hc
   split at h
   ·cases h
   ·rename_i t1 us1 h1
    obtain ⟨e1,g1⟩:=takeG_cons h1
    split at h
    ·cases h
    ·rename_i h2
     obtain ⟨i1,i2⟩:=listG_chn h2
     split at h
     ·cases h
     ·rename_i t3 us3 h3
      obtain ⟨e3,g3⟩:=takeG_cons h3
      cases h
      rw [e,e1]
      exact chn_sign (rel_noW hcg) (chn_word i1 (i2 (by rw [e3];exact chn_sign (sgn_semi.w g3) hu)))
  ·split at h
   ·cases h
   ·rename_i h1
    split at h
    ·cases h
    ·rename_i h2
     cases h
     exact atomG_chn h1 (bodyG_chn h2 hu)
theorem itemG_less {ts us:List Tn} {i:ItemI} (e:Ended ts) (h:itemG ts=.ok (i,us)):us.length<ts.length∧Ended us:=⟨(itemG_goes e h).1,(itemG_goes e h).2⟩
theorem itemsG_chn {k:Nat} {ts:List Tn} {is:List ItemI} (hk:ts.length≤k) (he:Ended ts) (h:itemsG k ts=.ok is):chn ts=true:=by
 induction k generalizing ts is with
 | zero=>
  obtain rfl:ts=[]:=List.eq_nil_of_length_eq_zero (by omega)
  rfl
 | succ k ih=>
  simp only [itemsG] at h
  split at h
  ·rename_i hf
   obtain ⟨us,l,rfl,hn⟩:=he
   cases us with
   | nil=>rfl
   | cons u us=>
    have:=hn u (by simp)
    rw [show sees isFinG ((u :: us)++[⟨.fin,l⟩])=isFinG u.g from rfl,this] at hf
    cases hf
  ·split at h
   ·cases h
   ·rename_i h1
    obtain ⟨g1,g2⟩:=itemG_less he h1
    split at h
    ·cases h
    ·rename_i h2
     exact itemG_chn h1 (ih (by omega) g2 h2)
theorem first_ltr {u:Sg} (h:tokOk u=true) (hw:isW2 u=false) (r:List UInt8):isWord (ltr (ba (bytesP (prtP (nrm u))++r)) 0)=false:=by
 cases u with
 | lp=>exact (ba_ltr0 40 r ▸ rfl:isWord (ltr (ba (40 :: r)) 0)=false)
 | rp=>exact (ba_ltr0 41 r ▸ rfl:isWord (ltr (ba (41 :: r)) 0)=false)
 | comma=>exact (ba_ltr0 44 (32 :: r) ▸ rfl:isWord (ltr (ba (44 :: 32 :: r)) 0)=false)
 | semi=>exact (ba_ltr0 59 (10 :: r) ▸ rfl:isWord (ltr (ba (59 :: 10 :: r)) 0)=false)
 | dot=>exact (ba_ltr0 46 (10 :: r) ▸ rfl:isWord (ltr (ba (46 :: 10 :: r)) 0)=false)
 | bang=>exact (ba_ltr0 33 r ▸ rfl:isWord (ltr (ba (33 :: r)) 0)=false)
 | arrow=>exact (ba_ltr0 32 (58 :: 45 :: 32 :: r) ▸ rfl:isWord (ltr (ba (32 :: 58 :: 45 :: 32 :: r)) 0)=false)
 | fin=>cases h
 | _=>cases hw
theorem sep_of {g:Sg} {x:Int} (h:isWord x=false):sepOk g x=true:=by
 have hd:isDig x=false:=by
  unfold isWord at h
  cases hd:isDig x with
  | false=>rfl
  | true=>rw [hd] at h;simp at h
 cases g <;> simp [sepOk,h,hd]
theorem next_ltr {t:Sg} {ts:List Tn} (hc:∀ u,ts.head?=some u→okNext t u.g=true) (hw:isW t=true) (h:∀ u∈ts,tokOk u.g=true):pcs (isNameG t) ts=[]∨isWord (ltr (ba (bytesP (pcs (isNameG t) ts))) 0)=false:=by
 cases ts with
 | nil=>exact .inl rfl
 | cons u ts=>
  refine .inr ?_
  have hn:=hc u rfl
  simp only [okNext,hw,Bool.not_true,Bool.false_or,Bool.or_eq_true,Bool.not_eq_true',Bool.and_eq_true] at hn
  simp only [pcs,pc1]
  by_cases hi:(isIntG u.g && isNameG t)=true
  ·rw [if_pos hi,List.append_assoc,bytesP_append]
   exact (ba_ltr0 32 _ ▸ rfl)
  ·rw [if_neg hi,List.nil_append,bytesP_append]
   have hu:isW2 u.g=false:=by
    rcases hn with hn | ⟨h1,h2⟩
    ·exact hn
    ·exact absurd (by rw [h1,h2];rfl) hi
   exact first_ltr (h u (by simp)) hu _
theorem okP_t {g:Sg} {ps:List Pc} (h1:tokOk g=true) (h2:ps=[]∨sepOk g (ltr (ba (bytesP ps)) 0)=true) (h3:okP ps=true):okP (.t g :: ps)=true:=by
 simp only [okP,h1,h3,Bool.and_true,Bool.true_and]
 rcases h2 with rfl | h2
 ·rfl
 ·rw [h2];simp
theorem pcs_ok:∀ (ts:List Tn) (last:Bool),(∀ t∈ts,tokOk t.g=true)→chn ts=true→okP (pcs last ts)=true
 | [],_,_,_=>rfl
 | t :: ts,last,h,hc=>by
  have ht:=h t (by simp)
  have hts:∀ u∈ts,tokOk u.g=true:=fun u hu=>h u (by simp [hu])
  have hc2:chn ts=true∧∀ u,ts.head?=some u→okNext t.g u.g=true:=by
   cases ts with
   | nil=>exact ⟨rfl,fun u hu=>(by cases hu)⟩
   | cons u ts=>
    simp only [chn,Bool.and_eq_true] at hc
    exact ⟨hc.2,fun v hv=>by simp at hv;rw [←hv];exact hc.1⟩
  have ih:=pcs_ok ts (isNameG t.g) hts hc2.1
  simp only [pcs,pc1]
  have hlead:okP ((if (isIntG t.g && last)=true then [Pc.sp] else [])++prtP (nrm t.g)++pcs (isNameG t.g) ts)=okP (prtP (nrm t.g)++pcs (isNameG t.g) ts):=by split <;> rfl
  rw [hlead]
  have hw:isW t.g=true→okP (.t (nrm t.g) :: pcs (isNameG t.g) ts)=true:=fun hw=>by
   refine okP_t (nrm_ok ht) ?_ ih
   rcases next_ltr hc2.2 hw hts with e | e
   ·exact .inl e
   ·exact .inr (sep_of e)
  have hs:∀ (g:Sg) (c:UInt8) (ps:List Pc),tokOk g=true→(∀ x,sepOk g x=true)→okP ps=true→okP (.t g :: ps)=true:=fun g c ps h1 h2 h3=>okP_t h1 (.inr (h2 _)) h3
  generalize hg:t.g=g at *
  cases g with
  | name s=>exact hw rfl
  | var s=>exact hw rfl
  | int s=>exact hw rfl
  | dom=>exact okP_t rfl (.inr (sep_of (ba_ltr0 32 _ ▸ rfl))) ih
  | rel=>exact okP_t rfl (.inr (sep_of (ba_ltr0 32 _ ▸ rfl))) ih
  | lp=>exact hs .lp 0 _ rfl (fun _=>rfl) ih
  | rp=>exact hs .rp 0 _ rfl (fun _=>rfl) ih
  | comma=>exact hs .comma 0 (.sp :: pcs false ts) rfl (fun _=>rfl) ih
  | semi=>exact hs .semi 0 (.nl :: pcs false ts) rfl (fun _=>rfl) ih
  | dot=>exact hs .dot 0 (.nl :: pcs false ts) rfl (fun _=>rfl) ih
  | bang=>exact hs .bang 0 _ rfl (fun _=>rfl) ih
  | arrow=>exact hs .arrow 0 (.sp :: pcs false ts) rfl (fun _=>rfl) ih
  | fin=>cases ht
theorem chn_pre:∀ (ts us:List Tn),chn (ts++us)=true→chn ts=true
 | [],_,_=>rfl
 | [t],_,_=>rfl
 | t :: u :: ts,us,h=>by
  simp only [List.cons_append,chn,Bool.and_eq_true] at h ⊢
  exact ⟨h.1,chn_pre (u :: ts) us h.2⟩
theorem progOut_nz:∀ (ts:List Tn) (last:Bool),progOut last (ts.map nz)=progOut last ts
 | [],_=>rfl
 | t :: ts,last=>by
  simp only [List.map_cons,progOut]
  rw [show isNameG (nz t).g=isNameG t.g from kd_name _,progOut_nz ts]
  congr 1
  unfold prog1
  rw [show isIntG (nz t).g=isIntG t.g from kd_int _,show prt (nz t).g=prt t.g from prt_nrm _]
theorem progOut_end:∀ (ts:List Tn) (last:Bool) (l:Nat),progOut last (ts++[⟨.fin,l⟩])=progOut last ts
 | [],last,l=>by cases last <;> rfl
 | t :: ts,last,l=>by
  simp only [List.cons_append,progOut]
  rw [progOut_end ts]
theorem reread {s:ByteArray} {toks:List Tn} {m:Mean} (h:readS s=.ok (toks,m)) (hl:(progOut false toks).size≤1200):∃ toks' m',readS (progOut false toks)=.ok (toks',m')∧progOut false toks' = progOut false toks∧eL m' = eL m:=by
 have hlat:∃ q,laterS m=.ok q:=by
  unfold readS at h
  split at h
  ·cases h
  ·split at h
   ·cases h
   ·split at h
    ·cases h
    ·split at h
     ·cases h
     ·rename_i me _
      split at h
      ·cases h
      ·rename_i q hq
       cases h
       exact ⟨q,hq⟩
 obtain ⟨_,ts,l,is,hs,rfl,hi,hm⟩:=readS_ok h
 have hok:=scanT_ok hs
 have hend:=scanT_ended hs
 have hch:=itemsG_chn (Nat.le_refl _) hend hi
 have hch2:=chn_pre ts [⟨.fin,l⟩] hch
 have e0:progOut false (withEnd ts l)=ba (bytesP (pcs false ts)):=by
  rw [pcs_bytes ts false hok]
  exact progOut_end ts false l
 have hsc:=scan_pieces (pcs false ts) (bytesP (pcs false ts)).length 1 (pcs_ok ts false hok hch2) (Nat.le_refl _)
 have htk:=pcs_toks ts false 1 hok
 have hsame:(withEnd ts l).map nz=(withEnd (toksP (pcs false ts) 1) (lineP (pcs false ts) 1)).map nz:=by
  unfold withEnd
  rw [List.map_append,List.map_append,htk]
  rfl
 have hlen:(withEnd ts l).length=(withEnd (toksP (pcs false ts) 1) (lineP (pcs false ts) 1)).length:=by
  have:=congrArg List.length hsame
  simpa using this
 obtain ⟨js,hj,hji⟩:=items_same hsame hi
 rw [hlen] at hj
 obtain ⟨m',hm',hem⟩:=sense_same hji (itemsG_fit hi) (itemsG_fit hj) hm
 refine ⟨withEnd (toksP (pcs false ts) 1) (lineP (pcs false ts) 1),m',?_,?_,hem⟩
 ·rw [e0]
  rw [e0,ba_size] at hl
  unfold readS
  rw [if_neg (by rw [ba_size];omega),ba_size,hsc]
  dsimp only
  rw [hj]
  dsimp only
  rw [hm']
  dsimp only
  obtain ⟨q,hq⟩:=(later_eL m').1 (by rw [hem];exact (later_eL m).2 hlat)
  rw [hq]
 ·rw [←progOut_nz,←hsame,progOut_nz]
end
section
open Go.RowKit
theorem same_rels {m m':Mean} (h:eL m' = eL m):m'.rels=m.rels:=by injection h
theorem same_cls {m m':Mean} (h:eL m' = eL m):m'.clauses.map eLc=m.clauses.map eLc:=by injection h
theorem stable_eL (cs:List ClauseM) (vals:List Nat):StableG layG (cs.map eLc) vals↔StableG layG cs vals:=by
 unfold StableG
 constructor
 ·intro h c hc l hl
  exact h (eLc c) (List.mem_map.2 ⟨c,hc,rfl⟩) l hl
 ·intro h c hc l hl
  obtain ⟨d,hd,rfl⟩:=List.mem_map.1 hc
  exact h d hd l hl
theorem stable_same {m m':Mean} (h:eL m' = eL m) (vals:List Nat):StableG layG m'.clauses vals↔StableG layG m.clauses vals:=by
 rw [←stable_eL,same_cls h,stable_eL]
theorem vals_same {m m':Mean} (h:eL m' = eL m) {n n':Nat} {vals vals':List Nat} (h1:LayI m.clauses n vals) (h2:StableG layG m.clauses vals) (h3:LayI m'.clauses n' vals') (h4:StableG layG m'.clauses vals') (i:Nat):vals'.getD i 0=vals.getD i 0:=
 Nat.le_antisymm (h3.2.2 vals ((stable_same h vals).2 h2) i) (h1.2.2 vals' ((stable_same h vals').1 h4) i)
theorem facts_eL (cs:List ClauseM):factsOf (cs.map eLc)=factsOf cs:=by
 funext i l
 apply propext
 unfold factsOf
 constructor
 ·rintro ⟨c,hc,h⟩
  obtain ⟨d,hd,rfl⟩:=List.mem_map.1 hc
  exact ⟨d,hd,h⟩
 ·rintro ⟨c,hc,h⟩
  exact ⟨eLc c,List.mem_map.2 ⟨c,hc,rfl⟩,h⟩
theorem facts_same {m m':Mean} (h:eL m' = eL m):factsOf m'.clauses=factsOf m.clauses:=by rw [←facts_eL,same_cls h,facts_eL]
theorem derives_eL (cs:List ClauseM):derives (cs.map eLc)=derives cs:=by
 funext rk i l
 apply propext
 unfold derives
 constructor
 ·rintro ⟨c,hc,h⟩
  obtain ⟨d,hd,rfl⟩:=List.mem_map.1 hc
  exact ⟨d,hd,h⟩
 ·rintro ⟨c,hc,h⟩
  exact ⟨eLc c,List.mem_map.2 ⟨c,hc,rfl⟩,h⟩
theorem nv_eL (cs:List ClauseM) (n:Nat) (rk:Nat→List Nat→Option Nat) (t:Nat):nv (cs.map eLc) n rk t=nv cs n rk t:=by
 induction t with
 | zero=>rfl
 | succ t ih=>
  funext i l
  simp only [nv]
  rw [ih]
  congr 1
  rw [derives_eL]
theorem filter_eL {p:ClauseM→Bool} (h:∀ c,p (eLc c)=p c):∀ l:List ClauseM,(l.filter p).map eLc=(l.map eLc).filter p
 | []=>rfl
 | a :: l=>by
  rw [List.map_cons,List.filter_cons,List.filter_cons,h a]
  split
  ·rw [List.map_cons,filter_eL h l]
  ·exact filter_eL h l
theorem rules_eL (cs:List ClauseM) (vals:List Nat) (lay:Nat):((cs.filter hasLits).filter (fun c=>decide (vals.getD c.head.rel 0=lay))).map eLc=((cs.map eLc).filter hasLits).filter (fun c=>decide (vals.getD c.head.rel 0=lay)):=by
 rw [filter_eL (fun _=>rfl),filter_eL (fun _=>rfl)]
theorem layP_same {m m':Mean} (h:eL m' = eL m) {vals vals':List Nat} (hv:∀ i,vals'.getD i 0=vals.getD i 0) {Fs:Nat→List Nat→Prop} {lay:Nat} {rk rk1 rk2:Nat→List Nat→Option Nat} (h1:LayP m vals Fs lay rk rk1) (h2:LayP m' vals' Fs lay rk rk2):rk2=rk1:=by
 obtain ⟨T1,h1⟩:=h1
 obtain ⟨T2,h2⟩:=h2
 rw [h1 (max T1 T2) (by omega),h2 (max T1 T2) (by omega),←nv_eL (rulesL m vals lay),←nv_eL (rulesL m' vals' lay)]
 have e1:(rulesL m' vals' lay).map eLc=(rulesL m vals lay).map eLc:=by
  unfold rulesL
  rw [rules_eL,rules_eL,same_cls h]
  congr 1
  funext c
  rw [hv]
 have e2:leaveP m'.rels.length vals' Fs rk lay=leaveP m.rels.length vals Fs rk lay:=by
  unfold leaveP
  funext i
  rw [same_rels h,hv]
 rw [e1,e2,same_rels h]
theorem laysP_same {m m':Mean} (h:eL m' = eL m) {vals vals':List Nat} (hv:∀ i,vals'.getD i 0=vals.getD i 0) {Fs:Nat→List Nat→Prop} {rk:Nat→List Nat→Option Nat}:∀ (b:Nat) {rk1 rk2:Nat→List Nat→Option Nat},LaysP m vals Fs rk b rk1→LaysP m' vals' Fs rk b rk2→rk2=rk1
 | 0,_,_,.refl,.refl=>rfl
 | b+1,_,_,.step h1 h2,.step h3 h4=>by
  have e:=laysP_same h hv b h1 h3
  subst e
  exact layP_same h hv h2 h4
theorem ranks_same {m m':Mean} (h:eL m' = eL m) (hf:MeanFine m) (hf':MeanFine m') {w w':World} {z z' eb eb' bb bb':Nat} {B B':SB} {S S':ST} {gr gr' cr cr':Nat} {rs rs':List RelX} {tv tv' mv mv':Value} {ka ka':Option Addr} {ks ks':List CluX} {kc kc':Nat} {vals vals':List Nat} {rk rk':Nat→List Nat→Option Nat} (h1:Made w z eb m bb B S gr cr rs tv mv ka ks kc vals rk) (h2:Made w' z' eb' m' bb' B' S' gr' cr' rs' tv' mv' ka' ks' kc' vals' rk'):rk' = rk:=by
 have a:=h1.lays hf
 have b:=h2.lays hf'
 rw [facts_same h,same_rels h] at b
 exact laysP_same h (vals_same h h1.lay h1.stable h2.lay h2.stable) _ a b
end
section
open Go.RowKit Go.Shelf
attribute [local go_sem] Oper.semAt_some
theorem nodes_iter0 {w:World} (pr ps:Nat) (hpr0:CellsAt w pr #[.slice none 0 0]) (T:List Nat) :
  Iter 280 #[.pointer (some ⟨pr,0,none⟩),.pointer (some ⟨ps,0,none⟩)] eN (fun _ _=>False) (fun xs=>xs=[]) T w:=by
 intro n l J W hl hlW hb hJ hY h0
 have hpr:=hpr0.of_heap (w':=W) (hb.block pr hpr0.lt)
 have hmm:=@run_makeMap Tryz.prog
 have k1:=Keeps.alloc [] W (.map #[] 0)
 have hpr1:=hpr.keeps k1 (by simp)
 have p0:=hpr1.cell 0
 simp at p0
 have HJ:=hide hJ
 clear hY hJ
 have hc:=hide (cloneE_nil (W.alloc (.map #[] 0)))
 refine callsIn_of_wp Tryz.func280 rfl trivial ?_ rfl
 simp only [Tryz.ntmps280,List.size_toArray,List.length_cons,List.length_nil,Nat.reduceAdd,Nat.reduceSub,Array.replicate_succ,Array.replicate_zero,List.push_toArray,List.append_toArray,List.nil_append,List.cons_append]
 gi_wp2_with fail
 refine ⟨trivial,fun h=>(nomatch h),?_⟩
 refine (callsIn_wide.2 hc.out).mono ?_
 rintro e W2 ⟨v,rfl,hv,k2⟩
 obtain ⟨av,cv,hvv⟩:=ownE_len hv
 subst hvv
 have kk2:Keeps (l :: T) W W2:=((k1.trans k2).mono (by simp))
 have hJ2:J [] W2:=HJ.out _ _ _ h0 ((k1.trans k2).below (Nat.le_refl _) (by simp))
 clear hv hc p0 hpr1 hpr
 gi_wp2_with fail
 gi_loopw [5] (fun t wr=>t=.slice av 0 cv∧J [] wr∧Keeps (l :: T) W wr) (fun _ _=>0)
 case atStart=>exact ⟨rfl,hJ2,kk2⟩
 case round=>
  obtain ⟨rfl,hJs,hkp⟩:=hrel
  gi_wp2
  go_end0
  exact ⟨⟨_,rfl⟩,[],rfl,hJs,hkp⟩
theorem sweep0_in (n:Nat) {w:World} {B:SB} {S:ST} (hS:StoreAt w B S) (hN:S.N=[]) :
  CallsIn Fence.wide n Tryz.prog 221 #[.pointer (some ⟨B.b,0,none⟩),.slice none 0 0] w fun e w'=>e=.returned (.tuple #[])∧Keeps B.own w w':=by
 obtain ⟨o,hrun,hm⟩:=run_clear (P:=Tryz.prog) Tryz.underlying211 hS.known 0
 have hrun':=fun (ty:TypeId)=>(show (Builtin.clear_ #[211] ty #[.map (some B.rk)]).run Tryz.prog w=_ from hrun)
 clear hrun
 have hSc:StoreAt (blk w B.rk o) B (S.withK []):=hS.knownBlk hm
 have kc:Keeps B.own w (blk w B.rk o):=(Keeps.blk w B.rk o).mono (by simp [SB.own])
 have hszc:(blk w B.rk o).heap.size=w.heap.size:=by simp [blk]
 have c5:=hS.head.cell 5
 simp at c5
 have hmm:=@run_makeMap Tryz.prog
 refine callsIn_of_wp_marks Tryz.func221 rfl trivial ?_ rfl
 simp only [Tryz.ntmps221,List.size_toArray,List.length_cons,List.length_nil,Nat.reduceAdd,Nat.reduceSub,Array.replicate_succ,Array.replicate_zero,List.push_toArray,List.append_toArray,List.nil_append,List.cons_append]
 gi_wp2_with fail
 refine ⟨trivial,fun h=>(nomatch h),?_⟩
 refine (callsIn_wide.2 (nodes_calls _ _ _ _ _)).mono ?_
 rintro e W ⟨rfl,rfl⟩
 gi_wp2_with fail
 generalize hWc:blk w B.rk o=Wc at hm hSc kc hszc hrun' ⊢
 clear hWc hrun' hm c5
 rw [←hszc]
 have Hszc:=hide hszc
 clear hszc
 have z1:=size_alloc' Wc (.map #[] 0)
 have z2:=size_alloc' (Wc.alloc (.map #[] 0)) (.cells #[.map (some Wc.heap.size)] 338)
 have z3:=size_alloc' ((Wc.alloc (.map #[] 0)).alloc (.cells #[.map (some Wc.heap.size)] 338)) (.cells #[.pointer (some ⟨B.b,0,none⟩)] 135)
 have z4:=size_alloc' (((Wc.alloc (.map #[] 0)).alloc (.cells #[.map (some Wc.heap.size)] 338)).alloc (.cells #[.pointer (some ⟨B.b,0,none⟩)] 135)) (.cells #[.slice none 0 0] 40)
 have a1:MapIs eI eU (Wc.alloc (.map #[] 0)) Wc.heap.size ([]:List (Int×Unit)):=MapIs.new Wc 0
 have a2:=CellsAt.new (Wc.alloc (.map #[] 0)) #[.map (some Wc.heap.size)] 338
 have a3:=CellsAt.new ((Wc.alloc (.map #[] 0)).alloc (.cells #[.map (some Wc.heap.size)] 338)) #[.pointer (some ⟨B.b,0,none⟩)] 135
 have a4:=CellsAt.new (((Wc.alloc (.map #[] 0)).alloc (.cells #[.map (some Wc.heap.size)] 338)).alloc (.cells #[.pointer (some ⟨B.b,0,none⟩)] 135)) #[.slice none 0 0] 40
 have k1:=Keeps.alloc [] Wc (.map #[] 0)
 have k2:=Keeps.alloc [] (Wc.alloc (.map #[] 0)) (.cells #[.map (some Wc.heap.size)] 338)
 have k3:=Keeps.alloc [] ((Wc.alloc (.map #[] 0)).alloc (.cells #[.map (some Wc.heap.size)] 338)) (.cells #[.pointer (some ⟨B.b,0,none⟩)] 135)
 have k4:=Keeps.alloc [] (((Wc.alloc (.map #[] 0)).alloc (.cells #[.map (some Wc.heap.size)] 338)).alloc (.cells #[.pointer (some ⟨B.b,0,none⟩)] 135)) (.cells #[.slice none 0 0] 40)
 rw [z1] at z2 a2
 rw [z2] at z3 a3
 rw [z3] at z4 a4
 have b1:=((a1.kept k2 (by simp)).kept k3 (by simp)).kept k4 (by simp)
 have b2:=(a2.keeps k3 (by simp)).keeps k4 (by simp)
 have b3:=a3.keeps k4 (by simp)
 have kk:=((k1.trans k2).trans k3).trans k4
 have hS4:=hSc.keeps kk (by simp)
 clear k1 k2 k3 k4 a1 a2 a3 z1 z2 z3
 generalize (((Wc.alloc (.map #[] 0)).alloc (.cells #[.map (some Wc.heap.size)] 338)).alloc (.cells #[.pointer (some ⟨B.b,0,none⟩)] 135)).alloc (.cells #[.slice none 0 0] 40)=W0 at z4 a4 b1 b2 b3 kk hS4 ⊢
 have hlow:∀ i∈B.own,i<Wc.heap.size:=hSc.lt
 have hit:=nodes_iter0 (Wc.heap.size+1+1+1) (Wc.heap.size+1+1) a4 [Wc.heap.size]
 refine range_law (gf:=280) (lb:=#[.pointer (some ⟨Wc.heap.size+1+1+1,0,none⟩),.pointer (some ⟨Wc.heap.size+1+1,0,none⟩)]) rfl (enters_of Tryz.func280 (by kernel_rfl) rfl) (T:=[Wc.heap.size]) (by simp;omega) hit (fun _=>rfl)
  (fun pre W=>CellsAt W (Wc.heap.size+1) #[.map (some Wc.heap.size)]∧∃ L,MapIs eI eU W Wc.heap.size L∧∀ f,(get L f).isSome=true↔f∈pre.map Prod.fst)
  (fun pre W1 W2 ⟨h,L,h2,h3⟩ hb=>⟨h.of_heap (hb.block _ (by omega)),L,h2.of_heap (hb.block _ (by omega)),h3⟩) ⟨b2,[],b1,fun f=>by simp [get_nil]⟩
  (fun _ _ _=>True)
  (fun x a' W1 W2 h _=>h) ?assign ?body ?done
 case assign=>
  intro l pre x W K hlt hi hc
  exact hc.elim
 case body=>
  intro l pre x a' W hlt hi hc
  exact hc.elim
 case done=>
  rintro xs W hG ⟨hi,L,hL,hLi⟩ hk hlt hD
  have hSW:=hS4.keeps hk (fun i hi x=>by simp only [List.mem_singleton] at x;have:=hlow i hi;omega)
  have kW:Keeps [] Wc W:=kk.trans_new hk (by intro i hi;simp only [List.mem_singleton] at hi;exact .inr (by omega))
  obtain ⟨o3,hrun3,hmr⟩:=run_maprange (P:=Tryz.prog) (K:=3) (E:=228) Tryz.underlying209 hSW.nodes
  have c2:=hSW.head.cell 2
  simp at c2
  have kR:=Keeps.alloc [] W o3
  have hD3:=(kR.block _ (Array.getElem?_eq_some_iff.1 hD).1 (by simp)).trans hD
  have hi3:=hi.keeps kR (by simp)
  have hL3:=hL.kept kR (by simp)
  have hS3:=hSW.keeps kR (by simp)
  have kW3:=kW.trans kR
  have HD3:=hide hD3
  have Hrun3:=hrun3
  clear hLi hG hD hit b1 b2 b3 a4
  gi_wp2_with fail
  have kwW3:Keeps B.own w (W.alloc o3):=kc.trans (kW3.mono (by simp))
  have hmr':MapRange eI eT (W.alloc o3) B.rn W.heap.size S.N (S.N.map Prod.fst):=hmr
  rw [hN] at hmr'
  clear hrun3 Hrun3 hmr c2 kW3 kW kR hSW hi hL
  gi_loopw [6] (fun _ wr=>MapRange eI eT wr B.rn W.heap.size [] ([]:List Int)∧Hid (wr.heap[W0.heap.size]?=some (.deferred (some [])))∧Keeps B.own w wr)
   (fun _ _=>0)
  case atStart=>exact ⟨hmr',HD3,kwW3⟩
  case round=>
   obtain ⟨hmr,HD,hkr⟩:=hrel
   rcases hmr.next (P:=Tryz.prog) eI_inj 0 with ⟨hl,hrun⟩ | ⟨f,t,W1,hf,_⟩
   ·have hrun':=fun (ty:TypeId)=>(show (Instr.next (.pointer (some ⟨W.heap.size,0,none⟩)) false ty).run Tryz.prog wr=_ from hrun)
    clear hrun
    gi_wp2_with fail
    have hd:=HD.out
    rw [z4] at hd
    refine ⟨by simp,.inl ⟨_,_,rfl,run_takeDeferred hd,?_⟩⟩
    refine ⟨_,results_none rfl _ _ _,rfl,?_⟩
    refine hkr.trans_new (Keeps.putObj wr (Wc.heap.size+1+1+1+1) _) (fun i hi=>?_)
    simp only [List.mem_singleton] at hi
    have:=Hszc.out
    exact .inr (by omega)
   ·cases hf
theorem sweep0_calls {w:World} {B:SB} {S:ST} (hS:StoreAt w B S) (hN:S.N=[]):Calls Tryz.prog 221 #[.pointer (some ⟨B.b,0,none⟩),.slice none 0 0] w fun e w'=>e=.returned (.tuple #[])∧Keeps B.own w w':=callsIn_wide.1 (sweep0_in 0 hS hN)
end
end Go.Proofs.YtgjomknpjigkhaaGreatDoor
