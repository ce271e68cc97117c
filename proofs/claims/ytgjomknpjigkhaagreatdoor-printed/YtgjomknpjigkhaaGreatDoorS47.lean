import Derived.Test.YtgjomknpjigkhaaGreatDoorS46
namespace Go.Proofs.YtgjomknpjigkhaaGreatDoor
set_option maxRecDepth 100000
set_option maxHeartbeats 4000000
section
open Go.RowKit
def rulesL (m:Mean) (vals:List Nat) (lay:Nat):List ClauseM:=(m.clauses.filter hasLits).filter (fun c=>decide (vals.getD c.head.rel 0=lay))
noncomputable def leaveP (n:Nat) (vals:List Nat) (Fs:Nat→List Nat→Prop) (rk:Nat→List Nat→Option Nat) (lay:Nat):Nat→List Nat→Option Nat:=fun i=>if i<n∧vals.getD i 0=lay then addRk (fun _=>none) (Fs i) 0 else rk i
def LayP (m:Mean) (vals:List Nat) (Fs:Nat→List Nat→Prop) (lay:Nat) (rk rk':Nat→List Nat→Option Nat):Prop:=∃ T,∀ t,T≤t→rk' = nv (rulesL m vals lay) m.rels.length (leaveP m.rels.length vals Fs rk lay) t
inductive LaysP (m:Mean) (vals:List Nat) (Fs:Nat→List Nat→Prop) (rk:Nat→List Nat→Option Nat):Nat→(Nat→List Nat→Option Nat)→Prop
 | refl:LaysP m vals Fs rk 0 rk
 | step {b:Nat} {rk1 rk2:Nat→List Nat→Option Nat}:LaysP m vals Fs rk b rk1→LayP m vals Fs b rk1 rk2→LaysP m vals Fs rk (b+1) rk2
theorem filter_mapE {α β:Type} {f:α→β} {p:α→Bool} {q:β→Bool}:∀ (l:List α),(∀ a∈l,p a=q (f a))→(l.filter p).map f=(l.map f).filter q
 | [],_=>rfl
 | a :: l,h=>by
  have ih:=filter_mapE l (fun b hb=>h b (by simp [hb]))
  rw [List.map_cons,List.filter_cons,List.filter_cons,h a (by simp)]
  split
  ·rw [List.map_cons,ih]
  ·exact ih
structure RsOk (m:Mean) (vals:List Nat) (rs:List RelX):Prop where
 len:rs.length=m.rels.length
 rel:∀ (i:Nat) (r:RelX),rs[i]?=some r→r.n=(m.cols i).length∧r.layer=vals.getD i 0
theorem RsOk.lay {m:Mean} {vals:List Nat} {rs:List RelX} (h:RsOk m vals rs) {i:Nat} (hi:i<m.rels.length):layOf rs i=vals.getD i 0:=by
 obtain ⟨r,hr⟩:∃ r,rs[i]?=some r:=⟨_,List.getElem?_eq_getElem (by rw [h.len];exact hi)⟩
 unfold layOf
 rw [hr]
 exact (h.rel i r hr).2
theorem lay_pure {m:Mean} {vals:List Nat} {rs:List RelX} {ks:List CluX} (h:RsOk m vals rs) (hf:MeanFine m) (hst:StableG layG m.clauses vals) (hk:ks.map (·.c)=m.clauses.filter hasLits) {Fs:Nat→List Nat→Prop} {lay:Nat} {rk rk':Nat→List Nat→Option Nat} (hs:LayStep rs Fs ks lay rk rk'):LayP m vals Fs lay rk rk':=by
 have hcm:∀ k∈ks,k.c∈m.clauses:=fun k hkm=>by
  have:k.c∈m.clauses.filter hasLits:=by rw [←hk];exact List.mem_map.2 ⟨k,hkm,rfl⟩
  exact (List.mem_filter.1 this).1
 have ecs:(ks.filter (ofLay rs lay)).map (·.c)=rulesL m vals lay:=by
  unfold rulesL
  rw [←hk]
  refine filter_mapE ks (fun k hkm=>?_)
  unfold ofLay
  rw [h.lay (hf.heads _ (hcm k hkm)).rel]
 have elv:leaveRk rs Fs rk lay rs.length=leaveP m.rels.length vals Fs rk lay:=by
  funext i
  unfold leaveRk leaveP
  rw [h.len]
  by_cases hi:i<m.rels.length
  ·rw [h.lay hi]
  ·rw [if_neg (fun q=>hi q.1),if_neg (fun q=>hi q.1)]
 unfold LayStep at hs
 rw [ecs,elv,h.len] at hs
 obtain ⟨T,e,hx⟩:=hs
 have hmem:∀ c∈rulesL m vals lay,c∈m.clauses∧vals.getD c.head.rel 0=lay:=fun c hc=>by
  unfold rulesL at hc
  obtain ⟨h1,h2⟩:=List.mem_filter.1 hc
  exact ⟨(List.mem_filter.1 h1).1,by simpa using h2⟩
 have hneg:NegOk (rulesL m vals lay):=fun c hc a ha h2 d hd e=>by
  obtain ⟨c1,c2⟩:=hmem c hc
  obtain ⟨d1,d2⟩:=hmem d hd
  have q:max (vals.getD c.head.rel 0) (vals.getD a.1.rel 0+(if a.2 then 1 else 0))=vals.getD c.head.rel 0:=hst c c1 a ha
  rw [h2,if_pos rfl,←e,c2,d2] at q
  omega
 have hrel:RelOk (rulesL m vals lay) m.rels.length:=fun c hc=>⟨(hf.heads c (hmem c hc).1).rel,fun a ha=>(hf.lits c (hmem c hc).1 a ha).rel⟩
 have hr:=rnd_nv (rk0:=leaveP m.rels.length vals Fs rk lay) hneg hrel
 have hcl:∀ i l,i<m.rels.length→¬ (derives (rulesL m vals lay) (nv (rulesL m vals lay) m.rels.length (leaveP m.rels.length vals Fs rk lay) T) i l∧nv (rulesL m vals lay) m.rels.length (leaveP m.rels.length vals Fs rk lay) T i l=none):=fun i l hi hd=>by
  obtain ⟨r,hri⟩:∃ r,rs[i]?=some r:=⟨_,List.getElem?_eq_getElem (by rw [h.len];exact hi)⟩
  refine hx i r l hri ?_ (((hr T).2.2 i l hi).2 hd)
  obtain ⟨c,hc,e,ν,hν,_,ht⟩:=hd.1
  have hfi:=hf.heads c (hmem c hc).1
  obtain ⟨hv1,hv2⟩:=alls_iff.1 hν
  rw [alls_iff,(h.rel i r hri).1,←ht,List.length_map,hfi.len,e]
  refine ⟨rfl,fun x hxm=>?_⟩
  obtain ⟨t,htm,rfl⟩:=List.mem_map.1 hxm
  obtain ⟨t1,t2,t3⟩:=hfi.tms t htm
  unfold tvR
  split
  ·rw [List.getD_eq_getElem?_getD]
   cases hq:ν[t.num.toNat]? with
   | none=>simp
   | some y=>exact hv2 y (List.mem_of_getElem? hq)
  ·omega
 refine ⟨T,fun t ht=>?_⟩
 obtain ⟨u,rfl⟩:∃ u,t=T+u:=⟨t - T,by omega⟩
 rw [e,(hr (T+1)).1,nv_still hcl 1,nv_still hcl u]
theorem lays_pure {m:Mean} {vals:List Nat} {rs:List RelX} {ks:List CluX} (h:RsOk m vals rs) (hf:MeanFine m) (hst:StableG layG m.clauses vals) (hk:ks.map (·.c)=m.clauses.filter hasLits) {Fs:Nat→List Nat→Prop} {rk:Nat→List Nat→Option Nat} {b:Nat} {rk':Nat→List Nat→Option Nat} (hs:LaySteps rs Fs ks 0 rk b rk'):LaysP m vals Fs rk b rk':=by
 induction hs with
 | refl=>exact .refl
 | step _ h2 ih=>exact .step ih (lay_pure h hf hst hk h2)
theorem Made.lays {w:World} {z eb:Nat} {m:Mean} {bb:Nat} {B:SB} {S:ST} {gr cr:Nat} {rs:List RelX} {tv mv:Value} {ka:Option Addr} {ks:List CluX} {kc:Nat} {vals:List Nat} {rk:Nat→List Nat→Option Nat} (h:Made w z eb m bb B S gr cr rs tv mv ka ks kc vals rk) (hf:MeanFine m):LaysP m vals (factsOf m.clauses) (fun _ _=>none) m.rels.length rk:=by
 have hr:RsOk m vals rs:=⟨h.eng.len,fun i r hi=>by
  have hil:=(List.getElem?_eq_some_iff.1 hi).1
  obtain ⟨nm,cols,hc⟩:∃ nm cols,m.rels[i]?=some (nm,cols):=⟨_,_,List.getElem?_eq_getElem (by rw [←h.eng.len];exact hil)⟩
  obtain ⟨a,b,_⟩:=h.eng.rels i r nm cols hi hc
  exact ⟨by rw [a];simp [Mean.cols,hc],b⟩⟩
 have:=lays_pure hr hf h.stable h.eng.ksc h.steps
 rw [h.eng.len] at this
 exact this
end
section
open Go.RowKit
def ba (l:List UInt8):ByteArray:=⟨⟨l⟩⟩
theorem ba_size (l:List UInt8):(ba l).size=l.length:=rfl
theorem ba_ltr (l:List UInt8) (i:Nat):ltr (ba l) i=((l[i]?.map (fun b=>(b.toNat:Int))).getD 0):=by
 unfold ltr
 by_cases h:i<l.length
 ·rw [dif_pos (show i<(ba l).size from h),List.getElem?_eq_getElem h];rfl
 ·rw [dif_neg (show ¬ i<(ba l).size from h),List.getElem?_eq_none (by omega)];rfl
theorem ba_ltr0 (c:UInt8) (l:List UInt8):ltr (ba (c :: l)) 0=(c.toNat:Int):=by rw [ba_ltr];rfl
theorem ba_ext {s:ByteArray} {l:List UInt8} (h:s.data.toList=l):s=ba l:=by
 cases s with
 | mk d=>cases d with | mk x=>subst h;rfl
theorem ba_pre (p r:List UInt8):(ba (p++r)).extract 0 p.length=ba p:=by
 apply ba_ext
 rw [ByteArray.data_extract,Array.toList_extract]
 simp [ba,List.extract_eq_take_drop]
theorem ba_rest (p r:List UInt8):(ba (p++r)).extract p.length (ba (p++r)).size=ba r:=by
 apply ba_ext
 rw [ByteArray.data_extract,Array.toList_extract,ba_size]
 simp [ba,List.extract_eq_take_drop]
theorem spanFrom_app {q:Int→Bool}:∀ (p r:List UInt8) (i k:Nat) (s:ByteArray),(∀ j:Nat,ltr s (i+j)=ltr (ba (p++r)) j)→(∀ b∈p,q (b.toNat:Int)=true)→(q (ltr (ba r) 0)=false∨k=p.length)→p.length≤k→spanFrom q s i k=i+p.length
 | [],r,i,k,s,hs,_,hr,_=>by
  cases k with
  | zero=>rfl
  | succ k=>
   rcases hr with hr | hr
   ·have h0:=hs 0
    rw [Nat.add_zero] at h0
    rw [spanFrom,h0,List.nil_append,hr];rfl
   ·simp at hr
 | b :: p,r,i,k,s,hs,hp,hr,hk=>by
  cases k with
  | zero=>simp at hk
  | succ k=>
   have h0:=hs 0
   rw [Nat.add_zero] at h0
   rw [spanFrom,h0,List.cons_append,ba_ltr0,hp b (by simp),if_pos rfl,spanFrom_app p r (i+1) k s (fun j=>?_) (fun c hc=>hp c (by simp [hc])) (hr.imp id (fun e=>by simpa using e)) (by simpa using hk)]
   ·simp;omega
   ·rw [show i+1+j=i+(j+1) by omega,hs (j+1),ba_ltr,ba_ltr];simp
theorem spanOf_app {q:Int→Bool} (p r:List UInt8) (hp:∀ b∈p,q (b.toNat:Int)=true) (hr:q (ltr (ba r) 0)=false∨r=[]):spanOf q (ba (p++r))=p.length:=by
 unfold spanOf
 rw [spanFrom_app p r 0 (ba (p++r)).size (ba (p++r)) (fun j=>by rw [Nat.zero_add]) hp (hr.imp id (fun e=>by rw [e,ba_size];simp)) (by rw [ba_size];simp),Nat.zero_add]
def tokB (g:Sg):List UInt8:=(txt g).data.toList
def cI (b:UInt8):Int:=(b.toNat:Int)
def tokOk:Sg→Bool
 | .name s=>match s.data.toList with
  | []=>false
  | b :: l=>isLow (cI b) && (b :: l).all (fun c=>isWord (cI c)) && decide (l.length<6) && !((b :: l) == [100,111,109]) && !((b :: l) == [114,101,108])
 | .var s=>match s.data.toList with
  | [b]=>isCap (cI b)
  | [b,c]=>isCap (cI b) && isDig (cI c)
  | _=>false
 | .int s=>decide (s.data.toList≠[]) && s.data.toList.all (fun c=>isDig (cI c)) && decide (s.data.toList.length≤2)
 | .fin=>false
 | _=>true
def sepOk:Sg→Int→Bool
 | .name _,x=>!isWord x
 | .dom,x=>!isWord x
 | .rel,x=>!isWord x
 | .int _,x=>!isDig x
 | .var _,x=>!isDig x
 | _,_=>true
theorem cutG_word {b:UInt8} {l r:List UInt8} (h1:isLow (cI b)=true) (h2:∀ c∈b :: l,isWord (cI c)=true) (h3:l.length<6) (h4:isWord (ltr (ba r) 0)=false∨r=[]):cutG (ba ((b :: l)++r))=some (wordG (ba (b :: l)),(b :: l).length):=by
 unfold cutG
 have e:=spanOf_app (q:=isWord) (b :: l) r h2 h4
 rw [e,if_pos (by rw [List.cons_append,ba_ltr0];exact h1),if_pos (by simp;omega),ba_pre]
theorem wordG_name {l:List UInt8} (h1:(l == [100,111,109])=false) (h2:(l == [114,101,108])=false):wordG (ba l)=.name (ba l):=by
 unfold wordG
 rw [show (ba l).toList=l from lit_toList l,h1,h2];rfl
theorem cutG_tok {g:Sg} {r:List UInt8} (hg:tokOk g=true) (hr:sepOk g (ltr (ba r) 0)=true∨r=[]):cutG (ba (tokB g++r))=some (g,(tokB g).length):=by
 have dig_no:∀ {x:Int},isDig x=true→isLow x=false∧isCap x=false:=fun {x} h=>by
  simp only [isDig,Bool.and_eq_true,decide_eq_true_eq] at h
  simp [isCap,isLow];omega
 cases g with
 | dom=>
  have:=cutG_word (b:=100) (l:=[111,109]) (r:=r) (by decide) (by decide) (by decide) (hr.imp (fun h=>by simpa [sepOk] using h) id)
  rw [show wordG (ba [100,111,109])=.dom by unfold wordG;rw [show (ba [100,111,109]).toList=[100,111,109] from lit_toList _];rfl] at this
  exact this
 | rel=>
  have:=cutG_word (b:=114) (l:=[101,108]) (r:=r) (by decide) (by decide) (by decide) (hr.imp (fun h=>by simpa [sepOk] using h) id)
  rw [show wordG (ba [114,101,108])=.rel by unfold wordG;rw [show (ba [114,101,108]).toList=[114,101,108] from lit_toList _];rfl] at this
  exact this
 | name s=>
  cases s with
  | mk d=>cases d with | mk l=>
   cases l with
   | nil=>simp [tokOk] at hg
   | cons b l=>
    simp only [tokOk,Bool.and_eq_true,List.all_eq_true,decide_eq_true_eq,Bool.not_eq_true'] at hg
    obtain ⟨⟨⟨⟨h1,h2⟩,h3⟩,h4⟩,h5⟩:=hg
    have:=cutG_word (r:=r) h1 h2 h3 (hr.imp (fun h=>by simpa [sepOk] using h) id)
    rw [wordG_name h4 h5] at this
    exact this
 | var s=>
  cases s with
  | mk d=>cases d with | mk l=>
   have cap_no:∀ {x:Int},isCap x=true→isLow x=false:=fun {x} h=>by
    simp only [isCap,Bool.and_eq_true,decide_eq_true_eq] at h
    simp [isLow];omega
   match l,hg with
   | [b],hg=>
    have hb:isCap (cI b)=true:=hg
    have h0:ltr (ba (tokB (.var ⟨⟨[b]⟩⟩)++r)) 0=cI b:=ba_ltr0 b r
    have hn:spanOf isDig ((ba (tokB (.var ⟨⟨[b]⟩⟩)++r)).extract 1 (min 2 (ba (tokB (.var ⟨⟨[b]⟩⟩)++r)).size))=0:=by
     cases r with
     | nil=>rfl
     | cons c r=>
      have he:(ba (tokB (.var ⟨⟨[b]⟩⟩)++c :: r)).extract 1 (min 2 (ba (tokB (.var ⟨⟨[b]⟩⟩)++c :: r)).size)=ba [c]:=by
       apply ba_ext
       rw [ByteArray.data_extract,Array.toList_extract,ba_size]
       have:min 2 (tokB (.var ⟨⟨[b]⟩⟩)++c :: r).length=2:=by simp [tokB,txt]
       rw [this]
       simp [ba,tokB,txt,List.extract_eq_take_drop]
      rw [he]
      have hc:isDig (cI c)=false:=by
       rcases hr with hr | hr
       ·rw [ba_ltr0] at hr;simpa [sepOk,cI] using hr
       ·cases hr
      have:=spanOf_app (q:=isDig) [] [c] (by simp) (.inl (by rw [ba_ltr0];exact hc))
      exact this
    unfold cutG
    rw [h0,if_neg (by rw [cap_no hb];decide),if_pos hb,hn]
    have:=ba_pre [b] r
    rw [show (ba (tokB (.var ⟨⟨[b]⟩⟩)++r)).extract 0 (1+0)=ba [b] from this]
    rfl
   | [b,c],hg=>
    simp only [tokOk,Bool.and_eq_true] at hg
    obtain ⟨hb,hc⟩:=hg
    have h0:ltr (ba (tokB (.var ⟨⟨[b,c]⟩⟩)++r)) 0=cI b:=ba_ltr0 b _
    have hn:spanOf isDig ((ba (tokB (.var ⟨⟨[b,c]⟩⟩)++r)).extract 1 (min 2 (ba (tokB (.var ⟨⟨[b,c]⟩⟩)++r)).size))=1:=by
     have he:(ba (tokB (.var ⟨⟨[b,c]⟩⟩)++r)).extract 1 (min 2 (ba (tokB (.var ⟨⟨[b,c]⟩⟩)++r)).size)=ba [c]:=by
      apply ba_ext
      rw [ByteArray.data_extract,Array.toList_extract,ba_size]
      have:min 2 (tokB (.var ⟨⟨[b,c]⟩⟩)++r).length=2:=by simp [tokB,txt]
      rw [this]
      simp [ba,tokB,txt,List.extract_eq_take_drop]
     rw [he]
     have:=spanOf_app (q:=isDig) [c] [] (by intro x hx;simp at hx;subst hx;exact hc) (.inr rfl)
     exact this
    unfold cutG
    rw [h0,if_neg (by rw [cap_no hb];decide),if_pos hb,hn]
    have:=ba_pre [b,c] r
    rw [show (ba (tokB (.var ⟨⟨[b,c]⟩⟩)++r)).extract 0 (1+1)=ba [b,c] from this]
    rfl
 | int s=>
  cases s with
  | mk d=>cases d with | mk l=>
   simp only [tokOk,Bool.and_eq_true,List.all_eq_true,decide_eq_true_eq] at hg
   obtain ⟨⟨h1,h2⟩,h3⟩:=hg
   cases l with
   | nil=>exact absurd rfl h1
   | cons b l=>
    have hb:isDig (cI b)=true:=h2 b (by simp)
    have h0:ltr (ba (tokB (.int ⟨⟨b :: l⟩⟩)++r)) 0=cI b:=ba_ltr0 b _
    have hn:spanOf isDig (ba (tokB (.int ⟨⟨b :: l⟩⟩)++r))=(b :: l).length:=spanOf_app (q:=isDig) (b :: l) r h2 (hr.imp (fun h=>by simpa [sepOk] using h) id)
    unfold cutG
    rw [h0,if_neg (by rw [(dig_no hb).1];decide),if_neg (by rw [(dig_no hb).2];decide),if_pos hb,hn,if_pos h3]
    have:=ba_pre (b :: l) r
    rw [show (ba (tokB (.int ⟨⟨b :: l⟩⟩)++r)).extract 0 (b :: l).length=ba (b :: l) from this]
    rfl
 | fin=>cases hg
 | arrow=>
  have h0:ltr (ba (tokB .arrow++r)) 0=58:=ba_ltr0 58 _
  have ha:isArrow (ba (tokB .arrow++r))=true:=by
   unfold isArrow
   have:=ba_pre (tokB .arrow) r
   rw [show (ba (tokB .arrow++r)).extract 0 2=ba (tokB .arrow) from this,show (ba (tokB .arrow)).toList=[58,45] from lit_toList _]
   simp [ba_size,tokB,txt]
  unfold cutG
  rw [h0,if_neg (by decide),if_neg (by decide),if_neg (by decide),if_neg (by decide),if_pos ha]
  rfl
 | lp=>unfold cutG;rw [show ltr (ba (tokB .lp++r)) 0=40 from ba_ltr0 40 _];rfl
 | rp=>unfold cutG;rw [show ltr (ba (tokB .rp++r)) 0=41 from ba_ltr0 41 _];rfl
 | comma=>unfold cutG;rw [show ltr (ba (tokB .comma++r)) 0=44 from ba_ltr0 44 _];rfl
 | semi=>unfold cutG;rw [show ltr (ba (tokB .semi++r)) 0=59 from ba_ltr0 59 _];rfl
 | dot=>unfold cutG;rw [show ltr (ba (tokB .dot++r)) 0=46 from ba_ltr0 46 _];rfl
 | bang=>unfold cutG;rw [show ltr (ba (tokB .bang++r)) 0=33 from ba_ltr0 33 _];rfl
theorem tok_first {g:Sg} (hg:tokOk g=true) (r:List UInt8):(tokB g).length≠0∧ltr (ba (tokB g++r)) 0≠10∧ltr (ba (tokB g++r)) 0≠32∧ltr (ba (tokB g++r)) 0≠9∧ltr (ba (tokB g++r)) 0≠37:=by
 have low:∀ {x:Int},isLow x=true∨isCap x=true∨isDig x=true→x≠10∧x≠32∧x≠9∧x≠37:=fun {x} h=>by
  simp only [isLow,isCap,isDig,Bool.and_eq_true,decide_eq_true_eq] at h
  omega
 have key:∀ (b:UInt8) (l:List UInt8),(isLow (cI b)=true∨isCap (cI b)=true∨isDig (cI b)=true)→(b :: l).length≠0∧ltr (ba ((b :: l)++r)) 0≠10∧ltr (ba ((b :: l)++r)) 0≠32∧ltr (ba ((b :: l)++r)) 0≠9∧ltr (ba ((b :: l)++r)) 0≠37:=fun b l h=>by
  rw [show ltr (ba ((b :: l)++r)) 0=cI b from ba_ltr0 b _]
  exact ⟨by simp,low h⟩
 cases g with
 | dom=>exact key 100 [111,109] (by decide)
 | rel=>exact key 114 [101,108] (by decide)
 | name s=>
  cases s with
  | mk d=>cases d with | mk l=>
   cases l with
   | nil=>simp [tokOk] at hg
   | cons b l=>
    simp only [tokOk,Bool.and_eq_true] at hg
    exact key b l (.inl hg.1.1.1.1)
 | var s=>
  cases s with
  | mk d=>cases d with | mk l=>
   match l,hg with
   | [b],hg=>exact key b [] (.inr (.inl hg))
   | [b,c],hg=>simp only [tokOk,Bool.and_eq_true] at hg;exact key b [c] (.inr (.inl hg.1))
 | int s=>
  cases s with
  | mk d=>cases d with | mk l=>
   simp only [tokOk,Bool.and_eq_true,List.all_eq_true,decide_eq_true_eq] at hg
   cases l with
   | nil=>exact absurd rfl hg.1.1
   | cons b l=>exact key b l (.inr (.inr (hg.1.2 b (by simp))))
 | fin=>cases hg
 | arrow=>rw [show ltr (ba (tokB .arrow++r)) 0=58 from ba_ltr0 58 _];decide
 | lp=>rw [show ltr (ba (tokB .lp++r)) 0=40 from ba_ltr0 40 _];decide
 | rp=>rw [show ltr (ba (tokB .rp++r)) 0=41 from ba_ltr0 41 _];decide
 | comma=>rw [show ltr (ba (tokB .comma++r)) 0=44 from ba_ltr0 44 _];decide
 | semi=>rw [show ltr (ba (tokB .semi++r)) 0=59 from ba_ltr0 59 _];decide
 | dot=>rw [show ltr (ba (tokB .dot++r)) 0=46 from ba_ltr0 46 _];decide
 | bang=>rw [show ltr (ba (tokB .bang++r)) 0=33 from ba_ltr0 33 _];decide
inductive Pc where
 | t (g:Sg)
 | sp
 | nl
def pcB:Pc→List UInt8
 | .t g=>tokB g
 | .sp=>[32]
 | .nl=>[10]
def bytesP (ps:List Pc):List UInt8:=ps.flatMap pcB
def toksP:List Pc→Nat→List Tn
 | [],_=>[]
 | .t g :: ps,l=>⟨g,l⟩ :: toksP ps l
 | .sp :: ps,l=>toksP ps l
 | .nl :: ps,l=>toksP ps (l+1)
def lineP:List Pc→Nat→Nat
 | [],l=>l
 | .t _ :: ps,l=>lineP ps l
 | .sp :: ps,l=>lineP ps l
 | .nl :: ps,l=>lineP ps (l+1)
def okP:List Pc→Bool
 | []=>true
 | .t g :: ps=>tokOk g && (ps.isEmpty || sepOk g (ltr (ba (bytesP ps)) 0)) && okP ps
 | _ :: ps=>okP ps
theorem bytesP_cons (p:Pc) (ps:List Pc):bytesP (p :: ps)=pcB p++bytesP ps:=by simp [bytesP]
theorem bytesP_append (ps qs:List Pc):bytesP (ps++qs)=bytesP ps++bytesP qs:=by simp [bytesP]
theorem scan_pieces:∀ (ps:List Pc) (k l:Nat),okP ps=true→(bytesP ps).length≤k→scanT k (ba (bytesP ps)) l=.inl (toksP ps l,lineP ps l)
 | [],k,l,_,_=>by cases k <;> rfl
 | .sp :: ps,k,l,h,hk=>by
  rw [bytesP_cons] at hk ⊢
  cases k with
  | zero=>simp [pcB] at hk
  | succ k=>
   have hr:=ba_rest [32] (bytesP ps)
   rw [scanT,if_neg (by rw [ba_size];simp [pcB]),show ltr (ba (pcB .sp++bytesP ps)) 0=32 from ba_ltr0 32 _,if_neg (by decide),if_pos (.inl rfl),show (ba (pcB .sp++bytesP ps)).extract 1 (ba (pcB .sp++bytesP ps)).size=ba (bytesP ps) from hr]
   exact scan_pieces ps k l h (by simpa [pcB] using hk)
 | .nl :: ps,k,l,h,hk=>by
  rw [bytesP_cons] at hk ⊢
  cases k with
  | zero=>simp [pcB] at hk
  | succ k=>
   have hr:=ba_rest [10] (bytesP ps)
   rw [scanT,if_neg (by rw [ba_size];simp [pcB]),show ltr (ba (pcB .nl++bytesP ps)) 0=10 from ba_ltr0 10 _,if_pos rfl,show (ba (pcB .nl++bytesP ps)).extract 1 (ba (pcB .nl++bytesP ps)).size=ba (bytesP ps) from hr]
   exact scan_pieces ps k (l+1) h (by simpa [pcB] using hk)
 | .t g :: ps,k,l,h,hk=>by
  rw [bytesP_cons] at hk ⊢
  simp only [okP,Bool.and_eq_true,Bool.or_eq_true] at h
  obtain ⟨⟨h1,h2⟩,h3⟩:=h
  obtain ⟨f0,f1,f2,f3,f4⟩:=tok_first h1 (bytesP ps)
  have hc:=cutG_tok (r:=bytesP ps) h1 (h2.symm.imp id (fun e=>by cases ps <;> simp at e;rfl))
  have hr:=ba_rest (tokB g) (bytesP ps)
  cases k with
  | zero=>simp [pcB] at hk;exact absurd (by rw [hk.1];rfl) f0
  | succ k=>
   show scanT (k+1) (ba (tokB g++bytesP ps)) l=_
   have hk2:(tokB g).length+(bytesP ps).length≤k+1:=by simpa [pcB] using hk
   rw [scanT,if_neg (by rw [ba_size];simp;intro e;exact absurd (by rw [e];rfl) f0),if_neg f1,if_neg (by rintro (e | e);exact f2 e;exact f3 e),if_neg f4,hc]
   simp only [hr]
   rw [scan_pieces ps k l h3 (by omega)]
   rfl
end
section
open Go.RowKit
theorem toksP_app:∀ (p q:List Pc) (l:Nat),toksP (p++q) l=toksP p l++toksP q (lineP p l)
 | [],_,_=>rfl
 | .t g :: p,q,l=>by simp only [List.cons_append,toksP,lineP];rw [toksP_app p q l]
 | .sp :: p,q,l=>toksP_app p q l
 | .nl :: p,q,l=>toksP_app p q (l+1)
def ItemsTo (ts:List Tn) (is:List ItemI) (us:List Tn):Prop:=∀ k,itemsG (k+is.length) ts=match itemsG k us with
 | .error l=>.error l
 | .ok r=>.ok (is++r)
theorem ItemsTo.one {ts us:List Tn} {i:ItemI} (h:itemG ts=.ok (i,us)) (hf:sees isFinG ts=false):ItemsTo ts [i] us:=fun k=>by
 show itemsG (k+1) ts=_
 rw [itemsG,hf,if_neg (by decide),h]
 dsimp only
 cases itemsG k us <;> rfl
theorem ItemsTo.trans {ts us vs:List Tn} {is js:List ItemI} (h:ItemsTo ts is us) (h2:ItemsTo us js vs):ItemsTo ts (is++js) vs:=fun k=>by
 have e:k+(is++js).length=(k+js.length)+is.length:=by simp;omega
 rw [e,h (k+js.length),h2 k]
 cases itemsG k vs with
 | error l=>rfl
 | ok r=>simp
def nmP (l:List UInt8):Pc:=.t (.name (ba l))
def dgB (k:Nat):ByteArray:=ba [UInt8.ofNat (48+k)]
def inP (k:Nat):Pc:=.t (.int (dgB k))
def vrP (c:UInt8):Pc:=.t (.var (ba [c]))
def domP (k:Nat):List Pc:=[.t .dom,.sp,nmP [100],.sp,inP k,.t .semi,.sp]
def relP2 (n:List UInt8) (s:Pc):List Pc:=[.t .rel,.sp,nmP n,.t .lp,nmP [100],.t .comma,.sp,nmP [100],.t .rp,.t .semi,s]
def atP2 (n:List UInt8) (a b:Pc):List Pc:=[nmP n,.t .lp,a,.t .comma,.sp,b,.t .rp]
def wayP1 (s:Pc):List Pc:=atP2 [112] (vrP 88) (vrP 89)++[.sp,.t .arrow,.sp]++atP2 [101] (vrP 88) (vrP 89)++[.t .dot,s]
def ePz (e:Nat×Nat):List Pc:=atP2 [101] (inP e.1) (inP e.2)++[.t .dot,.sp]
def dT (l:Nat):Tn:=⟨.name (ba [100]),l⟩
def atI2 (n:List UInt8) (a b:Sg) (l:Nat):AtomI:=⟨⟨.name (ba n),l⟩,[⟨a,l⟩,⟨b,l⟩]⟩
def vS (c:UInt8):Sg:=.var (ba [c])
def eI2 (l:Nat) (e:Nat×Nat):ItemI:=.clause (atI2 [101] (.int (dgB e.1)) (.int (dgB e.2)) l) []
end
section
open Go.RowKit
def cT (k:Nat):TermM:=⟨false,(k:Int)⟩
end
section
open Go.RowKit
theorem nv_nil {n:Nat} {rk:Nat→List Nat→Option Nat}:∀ t,nv [] n rk t=rk
 | 0=>rfl
 | t+1=>by
  funext i l
  rw [nv_no (fun ⟨c,hc,_⟩=>by simp at hc),nv_nil t]
theorem LayP.none {m:Mean} {vals:List Nat} {Fs:Nat→List Nat→Prop} {lay:Nat} {rk rk':Nat→List Nat→Option Nat} (h:LayP m vals Fs lay rk rk') (h1:rulesL m vals lay=[]) (h2:∀ i,i<m.rels.length→vals.getD i 0≠lay):rk' = rk:=by
 obtain ⟨T,hT⟩:=h
 rw [hT T (Nat.le_refl _),h1,nv_nil]
 funext i
 unfold leaveP
 rw [if_neg (fun q=>h2 i q.1 q.2)]
theorem ways_lay {m:Mean} {vals:List Nat} {Fs:Nat→List Nat→Prop} {lay:Nat} {rk rk':Nat→List Nat→Option Nat} (h:LayP m vals Fs lay rk rk') {e p l1 l2:Nat} (hr:rulesL m vals lay=[way1 e p l1,way2 e p l2]) (he:e≠p) (hp:p<m.rels.length) (hel:e<m.rels.length) (hve:vals.getD e 0=lay) (hvp:vals.getD p 0=lay) {E:Nat→Nat→Prop} (hE:∀ x y,x<8→y<8→(Fs e [x,y]↔E x y)) (h8:∀ x y,E x y→x<8∧y<8) (h0:∀ l,¬ Fs p l) {x y:Nat} (hx:x<8) (hy:y<8) (r:Nat):rk' p [x,y]=some r↔Way E 8 r x y∧∀ q,q<r→¬ Way E 8 q x y:=by
 obtain ⟨T,hT⟩:=h
 have key:=fun t=>ways_nv (e:=e) (p:=p) (l1:=l1) (l2:=l2) (n:=m.rels.length) (rk:=leaveP m.rels.length vals Fs rk lay) he hp (E:=E) (fun x y hx hy=>by
  unfold leaveP
  rw [if_pos ⟨hel,hve⟩]
  unfold addRk
  rw [←hE x y hx hy]
  by_cases q:Fs e [x,y]
  ·rw [if_pos q];simp [q]
  ·rw [if_neg q];simp [q]) h8 (fun l=>by
  unfold leaveP
  rw [if_pos ⟨hp,hvp⟩]
  unfold addRk
  rw [if_neg (h0 l)]) t hx hy r
 rw [←hr] at key
 constructor
 ·intro q
  rw [hT T (Nat.le_refl _)] at q
  exact ((key T).1 q).2
 ·intro q
  rw [hT (max T r) (Nat.le_max_left _ _)]
  exact (key (max T r)).2 ⟨Nat.le_max_right _ _,q⟩
end
section
open Go.RowKit
def worksP:List Pc:=domP 3++relP2 [101] .sp++relP2 [112] .sp++ePz (0,1)++ePz (1,2)++wayP1 .sp++atP2 [112] (vrP 88) (vrP 90)++[.sp,.t .arrow,.sp]++atP2 [112] (vrP 88) (vrP 89)++[.t .comma,.sp]++atP2 [101] (vrP 89) (vrP 90)++[.t .dot]
def worksC:List ClauseM:=[⟨⟨0,[cT 0,cT 1]⟩,[],1⟩,⟨⟨0,[cT 1,cT 2]⟩,[],1⟩,way1 0 1 1,way2 0 1 1]
def worksM:Mean:=⟨[(ba [100],3)],[(ba [101],[0,0]),(ba [112],[0,0])],worksC⟩
def worksI:List ItemI:=[.dom (dT 1) ⟨.int (dgB 3),1⟩,.rel ⟨.name (ba [101]),1⟩ [dT 1,dT 1],.rel ⟨.name (ba [112]),1⟩ [dT 1,dT 1],eI2 1 (0,1),eI2 1 (1,2),
 .clause (atI2 [112] (vS 88) (vS 89) 1) [⟨atI2 [101] (vS 88) (vS 89) 1,false⟩],
 .clause (atI2 [112] (vS 88) (vS 90) 1) [⟨atI2 [112] (vS 88) (vS 89) 1,false⟩,⟨atI2 [101] (vS 89) (vS 90) 1,false⟩]]
theorem worksP_ok:okP worksP=true:=by rfl
theorem worksP_items (us:List Tn):ItemsTo (toksP worksP 1++us) worksI us:=by
 refine ItemsTo.trans (is:=[_]) (ItemsTo.one (us:=toksP (relP2 [101] .sp++relP2 [112] .sp++ePz (0,1)++ePz (1,2)++wayP1 .sp++atP2 [112] (vrP 88) (vrP 90)++[.sp,.t .arrow,.sp]++atP2 [112] (vrP 88) (vrP 89)++[.t .comma,.sp]++atP2 [101] (vrP 89) (vrP 90)++[.t .dot]) 1++us) rfl rfl) ?_
 refine ItemsTo.trans (is:=[_]) (ItemsTo.one (us:=toksP (relP2 [112] .sp++ePz (0,1)++ePz (1,2)++wayP1 .sp++atP2 [112] (vrP 88) (vrP 90)++[.sp,.t .arrow,.sp]++atP2 [112] (vrP 88) (vrP 89)++[.t .comma,.sp]++atP2 [101] (vrP 89) (vrP 90)++[.t .dot]) 1++us) rfl rfl) ?_
 refine ItemsTo.trans (is:=[_]) (ItemsTo.one (us:=toksP (ePz (0,1)++ePz (1,2)++wayP1 .sp++atP2 [112] (vrP 88) (vrP 90)++[.sp,.t .arrow,.sp]++atP2 [112] (vrP 88) (vrP 89)++[.t .comma,.sp]++atP2 [101] (vrP 89) (vrP 90)++[.t .dot]) 1++us) rfl rfl) ?_
 refine ItemsTo.trans (is:=[_]) (ItemsTo.one (us:=toksP (ePz (1,2)++wayP1 .sp++atP2 [112] (vrP 88) (vrP 90)++[.sp,.t .arrow,.sp]++atP2 [112] (vrP 88) (vrP 89)++[.t .comma,.sp]++atP2 [101] (vrP 89) (vrP 90)++[.t .dot]) 1++us) rfl rfl) ?_
 refine ItemsTo.trans (is:=[_]) (ItemsTo.one (us:=toksP (wayP1 .sp++atP2 [112] (vrP 88) (vrP 90)++[.sp,.t .arrow,.sp]++atP2 [112] (vrP 88) (vrP 89)++[.t .comma,.sp]++atP2 [101] (vrP 89) (vrP 90)++[.t .dot]) 1++us) rfl rfl) ?_
 refine ItemsTo.trans (is:=[_]) (ItemsTo.one (us:=toksP (atP2 [112] (vrP 88) (vrP 90)++[.sp,.t .arrow,.sp]++atP2 [112] (vrP 88) (vrP 89)++[.t .comma,.sp]++atP2 [101] (vrP 89) (vrP 90)++[.t .dot]) 1++us) rfl rfl) ?_
 exact ItemsTo.one rfl rfl
theorem works_read:∃ toks,readS (ba (bytesP worksP))=.ok (toks,worksM):=by
 have hs:=scan_pieces worksP (bytesP worksP).length 1 worksP_ok (Nat.le_refl _)
 have hi:=worksP_items [⟨.fin,lineP worksP 1⟩]
 refine ⟨withEnd (toksP worksP 1) (lineP worksP 1),?_⟩
 unfold readS
 rw [if_neg (show ¬ 1200<(ba (bytesP worksP)).size by show ¬ 1200<101;omega),ba_size,hs]
 dsimp only
 have hl:(withEnd (toksP worksP 1) (lineP worksP 1)).length=(62+1)+worksI.length:=rfl
 rw [hl]
 have e1:itemsG ((62+1)+worksI.length) (withEnd (toksP worksP 1) (lineP worksP 1))=.ok worksI:=by
  unfold withEnd
  rw [hi (62+1)]
  have e2:itemsG (62+1) [⟨.fin,lineP worksP 1⟩]=.ok []:=rfl
  rw [e2]
  simp
 rw [e1]
 dsimp only
 rw [show senseS emptyM worksI=.ok worksM from rfl]
 dsimp only
 rw [show laterS worksM=.ok worksM from rfl]
def twiceP:List Pc:=[.t .dom,.sp,nmP [100],.sp,inP 3,.t .semi,.sp,.t .dom,.sp,nmP [100],.sp,inP 2,.t .semi]
theorem twice_read:readS (ba (bytesP twiceP))=.error (7,1):=by
 have hs:=scan_pieces twiceP (bytesP twiceP).length 1 (by rfl) (Nat.le_refl _)
 unfold readS
 rw [if_neg (show ¬ 1200<(ba (bytesP twiceP)).size by show ¬ 1200<17;omega),ba_size,hs]
 rfl
theorem works_way {r x y:Nat} (h:Way (fun a b=>(a,b)=(0,1)∨(a,b)=(1,2)) 8 r x y):(x=0∧y=1∧r=1)∨(x=1∧y=2∧r=1)∨(x=0∧y=2∧r=2):=by
 induction h with
 | one h=>
  rcases h with h | h
  ·cases h;exact .inl ⟨rfl,rfl,rfl⟩
  ·cases h;exact .inr (.inl ⟨rfl,rfl,rfl⟩)
 | cons h1 _ _ ih=>
  rcases h1 with h1 | h1
  ·cases h1
   rcases ih with ⟨q,_⟩ | ⟨_,rfl,rfl⟩ | ⟨q,_⟩
   ·cases q
   ·exact .inr (.inr ⟨rfl,rfl,rfl⟩)
   ·cases q
  ·cases h1
   rcases ih with ⟨q,_⟩ | ⟨q,_⟩ | ⟨q,_⟩ <;> cases q
theorem works_facts {i:Nat} {l:List Nat}:factsOf worksC i l↔i=0∧(l=[0,1]∨l=[1,2]):=by
 constructor
 ·rintro ⟨c,hc,hl,hr,ν,_,ht⟩
  simp only [worksC,List.mem_cons,List.not_mem_nil,or_false] at hc
  rcases hc with rfl | rfl | rfl | rfl
  ·exact ⟨hr.symm,.inl (by rw [←ht];rfl)⟩
  ·exact ⟨hr.symm,.inr (by rw [←ht];rfl)⟩
  ·cases hl
  ·cases hl
 ·rintro ⟨rfl,rfl | rfl⟩
  ·exact ⟨_,List.mem_cons_self ..,rfl,rfl,[0,0,0,0],alls4 (by omega) (by omega) (by omega) (by omega),rfl⟩
  ·exact ⟨⟨⟨0,[cT 1,cT 2]⟩,[],1⟩,by simp [worksC],rfl,rfl,[0,0,0,0],alls4 (by omega) (by omega) (by omega) (by omega),rfl⟩
theorem works_holds {vals:List Nat} (hl:LayI worksC 2 vals) {rk:Nat→List Nat→Option Nat} (h:LaysP worksM vals (factsOf worksC) (fun _ _=>none) 2 rk):rk 1 [0,2]=some 2∧rk 1 [2,0]=none∧(alls 2).filter (fun l=>(rk 1 l).isSome)=[[0,1],[0,2],[1,2]]:=by
 have hst:StableG layG worksC [0,0]:=fun c hc l hl=>by
  simp only [worksC,List.mem_cons,List.not_mem_nil,or_false] at hc
  rcases hc with rfl | rfl | rfl | rfl
  ·cases hl
  ·cases hl
  ·simp only [way1,List.mem_cons,List.not_mem_nil,or_false] at hl
   subst hl;rfl
  ·simp only [way2,List.mem_cons,List.not_mem_nil,or_false] at hl
   rcases hl with rfl | rfl <;> rfl
 have h0:=hl.2.2 _ hst 0
 have h1:=hl.2.2 _ hst 1
 have v0:vals.getD 0 0=0:=by simp at h0;simp;omega
 have v1:vals.getD 1 0=0:=by simp at h1;simp;omega
 have hn:worksM.rels.length=2:=rfl
 have hR:∀ lay,rulesL worksM vals lay=if lay=0 then [way1 0 1 1,way2 0 1 1] else []:=fun lay=>by
  show ([way1 0 1 1,way2 0 1 1]:List ClauseM).filter (fun c=>decide (vals.getD c.head.rel 0=lay))=_
  simp only [List.filter_cons,List.filter_nil]
  rw [show (way1 0 1 1).head.rel=1 from rfl,show (way2 0 1 1).head.rel=1 from rfl,v1]
  by_cases e:lay=0
  ·subst e;rfl
  ·have:¬ (0=lay):=fun q=>e q.symm
   simp [*]
 have key:∀ x y,x<8→y<8→∀ r,rk 1 [x,y]=some r↔(x=0∧y=1∧r=1)∨(x=1∧y=2∧r=1)∨(x=0∧y=2∧r=2):=by
  cases h with
  | step h1 s1=>cases h1 with
   | step h0 s0=>
    cases h0
    have e1:=s1.none (by rw [hR];rfl) (fun i hi=>by
     rw [hn] at hi
     have:i=0∨i=1:=by omega
     rcases this with rfl | rfl
     ·rw [v0];decide
     ·rw [v1];decide)
    subst e1
    intro x y hx hy r
    have hw:=ways_lay s0 (by rw [hR];rfl) (by decide) (by decide) (by decide) v0 v1 (E:=fun a b=>(a,b)=(0,1)∨(a,b)=(1,2)) (fun a b _ _=>by rw [works_facts];simp) (fun a b q=>by rcases q with q | q <;> cases q <;> exact ⟨by omega,by omega⟩) (fun l q=>by cases (works_facts.1 q).1) hx hy r
    rw [hw]
    constructor
    ·rintro ⟨a,_⟩;exact works_way a
    ·have w1:Way (fun a b=>(a,b)=(0,1)∨(a,b)=(1,2)) 8 1 0 1:=.one (.inl rfl)
     have w2:Way (fun a b=>(a,b)=(0,1)∨(a,b)=(1,2)) 8 1 1 2:=.one (.inr rfl)
     rintro (⟨rfl,rfl,rfl⟩ | ⟨rfl,rfl,rfl⟩ | ⟨rfl,rfl,rfl⟩)
     ·exact ⟨w1,fun q hq hw=>by have:=hw.pos;omega⟩
     ·exact ⟨w2,fun q hq hw=>by have:=hw.pos;omega⟩
     ·exact ⟨w1.trans (by omega) w2,fun q hq hw=>by
       rcases works_way hw with ⟨_,q,_⟩ | ⟨q,_⟩ | ⟨_,_,q⟩
       ·cases q
       ·cases q
       ·omega⟩
 refine ⟨(key 0 2 (by omega) (by omega) 2).2 (.inr (.inr ⟨rfl,rfl,rfl⟩)),?_,?_⟩
 ·cases hz:rk 1 [2,0] with
  | none=>rfl
  | some q=>rcases (key 2 0 (by omega) (by omega) q).1 hz with ⟨q,_⟩ | ⟨q,_⟩ | ⟨q,_⟩ <;> cases q
 ·have:(alls 2).filter (fun l=>(rk 1 l).isSome)=(alls 2).filter (fun l=>decide (l=[0,1]∨l=[0,2]∨l=[1,2])):=by
   apply List.filter_congr
   intro l hl
   obtain ⟨h1,h2⟩:=alls_iff.1 hl
   match l,h1 with
   | [x,y],_=>
    have hx:=h2 x (by simp)
    have hy:=h2 y (by simp)
    rw [Bool.eq_iff_iff,decide_eq_true_eq,Option.isSome_iff_exists]
    constructor
    ·rintro ⟨r,hr⟩
     rcases (key x y hx hy r).1 hr with ⟨rfl,rfl,_⟩ | ⟨rfl,rfl,_⟩ | ⟨rfl,rfl,_⟩ <;> simp
    ·intro q
     simp at q
     rcases q with ⟨rfl,rfl⟩ | ⟨rfl,rfl⟩ | ⟨rfl,rfl⟩
     ·exact ⟨1,(key 0 1 hx hy 1).2 (.inl ⟨rfl,rfl,rfl⟩)⟩
     ·exact ⟨2,(key 0 2 hx hy 2).2 (.inr (.inr ⟨rfl,rfl,rfl⟩))⟩
     ·exact ⟨1,(key 1 2 hx hy 1).2 (.inr (.inl ⟨rfl,rfl,rfl⟩))⟩
  rw [this]
  decide
end
end Go.Proofs.YtgjomknpjigkhaaGreatDoor
