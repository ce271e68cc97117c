import Derived.Test.YtgjomknpjigkhaaGreatDoorR45
import Derived.Test.YtgjomknpjigkhaaGreatDoorR42
import Derived.Test.YtgjomknpjigkhaaGreatDoorR15
namespace Go.Proofs.YtgjomknpjigkhaaGreatDoor
section
def vT (k:Nat):TermM:=⟨true,(k:Int)⟩
def way1 (e p l:Nat):ClauseM:=⟨⟨p,[vT 0,vT 1]⟩,[(⟨e,[vT 0,vT 1]⟩,false)],l⟩
def way2 (e p l:Nat):ClauseM:=⟨⟨p,[vT 0,vT 1]⟩,[(⟨p,[vT 0,vT 2]⟩,false),(⟨e,[vT 2,vT 1]⟩,false)],l⟩
theorem least {P:Nat→Prop}:∀ {n:Nat},P n→∃ m,m≤n∧P m∧∀ k,k < m→¬ P k:=by
 intro n
 induction n using Nat.strongRecOn with
 | ind n ih=>
  intro h
  by_cases hk:∃ k,k < n∧P k
  ·obtain ⟨k,h1,h2⟩:=hk
   obtain ⟨m,a,b,c⟩:=ih k h1 h2
   exact ⟨m,by omega,b,c⟩
  ·exact ⟨n,Nat.le_refl _,h,fun k h1 h2=>hk ⟨k,h1,h2⟩⟩
theorem alls4 {a b c d:Nat} (ha:a < 8) (hb:b < 8) (hc:c < 8) (hd:d < 8):[a,b,c,d] ∈ alls 4:=by
 simp only [alls,List.mem_flatMap,List.mem_range,List.mem_map,List.mem_singleton]
 exact ⟨a,ha,_,⟨b,hb,_,⟨c,hc,_,⟨d,hd,_,rfl,rfl⟩,rfl⟩,rfl⟩,rfl⟩
theorem of_alls4 {ν:List Nat} (h:ν ∈ alls 4):∃ a b c d,ν = [a,b,c,d]∧a < 8∧b < 8∧c < 8∧d < 8:=by
 simp only [alls,List.mem_flatMap,List.mem_range,List.mem_map,List.mem_singleton] at h
 obtain ⟨a,ha,_,⟨b,hb,_,⟨c,hc,_,⟨d,hd,_,rfl,rfl⟩,rfl⟩,rfl⟩,rfl⟩:=h
 exact ⟨a,b,c,d,rfl,ha,hb,hc,hd⟩
section
variable {e p l1 l2 n:Nat} {rk:Nat→List Nat→Option Nat}
theorem derives_ways {x y:Nat} (hx:x < 8) (hy:y < 8):derives [way1 e p l1,way2 e p l2] rk p [x,y]↔(rk e [x,y]).isSome = true∨∃ z,z < 8∧(rk p [x,z]).isSome = true∧(rk e [z,y]).isSome = true:=by
 constructor
 ·rintro ⟨c,hc,_,ν,hν,hl,ht⟩
  obtain ⟨a,b,u,d,rfl,_,_,hu,_⟩:=of_alls4 hν
  simp only [List.mem_cons,List.not_mem_nil,or_false] at hc
  rcases hc with rfl | rfl
  ·have h1:=hl (⟨e,[vT 0,vT 1]⟩,false) (by simp [way1])
   simp [way1,vT,tvR] at ht
   obtain ⟨rfl,rfl⟩:=ht
   simp [litH,vT,tvR] at h1
   exact .inl h1
  ·have h1:=hl (⟨p,[vT 0,vT 2]⟩,false) (by simp [way2])
   have h2:=hl (⟨e,[vT 2,vT 1]⟩,false) (by simp [way2])
   simp [way2,vT,tvR] at ht
   obtain ⟨rfl,rfl⟩:=ht
   simp [litH,vT,tvR] at h1 h2
   exact .inr ⟨u,hu,h1,h2⟩
 ·rintro (h | ⟨z,hz,h1,h2⟩)
  ·refine ⟨way1 e p l1,by simp,rfl,[x,y,0,0],alls4 hx hy (by omega) (by omega),fun a ha=>?_,by simp [way1,vT,tvR]⟩
   simp only [way1,List.mem_cons,List.not_mem_nil,or_false] at ha
   subst ha
   simpa [litH,vT,tvR] using h
  ·refine ⟨way2 e p l2,by simp,rfl,[x,y,z,0],alls4 hx hy hz (by omega),fun a ha=>?_,by simp [way2,vT,tvR]⟩
   simp only [way2,List.mem_cons,List.not_mem_nil,or_false] at ha
   rcases ha with rfl | rfl
   ·simpa [litH,vT,tvR] using h1
   ·simpa [litH,vT,tvR] using h2
theorem ways_e (he:e ≠ p):∀ (t:Nat) (l:List Nat),nv [way1 e p l1,way2 e p l2] n rk t e l = rk e l
 | 0,_=>rfl
 | t + 1,l=>by
  rw [nv_no (derives_none (fun d hd=>?_) _ _),ways_e he t l]
  simp only [List.mem_cons,List.not_mem_nil,or_false] at hd
  rcases hd with rfl | rfl <;> exact fun q=>he q.symm
theorem ways_nv (he:e ≠ p) (hp:p < n) {E:Nat→Nat→Prop} (hE:∀ x y,x < 8→y < 8→((rk e [x,y]).isSome = true↔E x y)) (h8:∀ x y,E x y→x < 8∧y < 8) (h0:∀ l,rk p l = none):∀ (t:Nat) {x y:Nat} (_:x < 8) (_:y < 8) (r:Nat),nv [way1 e p l1,way2 e p l2] n rk t p [x,y] = some r↔r≤t∧Way E 8 r x y∧∀ m,m < r→¬ Way E 8 m x y
 | 0,x,y,_,_,r=>by
  show rk p [x,y] = some r↔_
  rw [h0]
  constructor
  ·exact fun q=>nomatch q
  ·rintro ⟨h1,h2,_⟩;have:=h2.pos;omega
 | t + 1,x,y,hx,hy,r=>by
  have ih:=fun {x y:Nat} (hx:x < 8) (hy:y < 8) (r:Nat)=>ways_nv he hp hE h8 h0 t hx hy r
  have hA:∀ {x y:Nat},x < 8→y < 8→((nv [way1 e p l1,way2 e p l2] n rk t p [x,y]).isSome = true↔∃ q,q≤t∧Way E 8 q x y):=fun {x y} hx hy=>by
   constructor
   ·intro h
    obtain ⟨q,hq⟩:=Option.isSome_iff_exists.1 h
    exact ⟨q,((ih hx hy q).1 hq).1,((ih hx hy q).1 hq).2.1⟩
   ·rintro ⟨q,h1,h2⟩
    obtain ⟨m,a,b,c⟩:=least (P:=fun q=>Way E 8 q x y) h2
    rw [(ih hx hy m).2 ⟨by omega,b,c⟩];rfl
  have hD:derives [way1 e p l1,way2 e p l2] (nv [way1 e p l1,way2 e p l2] n rk t) p [x,y]↔∃ q,q≤t + 1∧Way E 8 q x y:=by
   rw [derives_ways hx hy,ways_e he,hE x y hx hy]
   constructor
   ·rintro (h | ⟨z,hz,h1,h2⟩)
    ·exact ⟨1,by omega,.one h⟩
    ·obtain ⟨q,a,b⟩:=(hA hx hz).1 h1
     rw [ways_e he,hE z y hz hy] at h2
     exact ⟨q + 1,by omega,b.trans hz (.one h2)⟩
   ·rintro ⟨q,h1,h2⟩
    cases q with
    | zero=>exact absurd h2.pos (by omega)
    | succ q=>
     by_cases hq:0 < q
     ·obtain ⟨z,hz,a,b⟩:=h2.last hq
      exact .inr ⟨z,hz,(hA hx hz).2 ⟨q,by omega,a⟩,by rw [ways_e he,hE z y hz hy];exact b⟩
     ·have:q = 0:=by omega
      subst this
      exact .inl (Way.one_iff.1 h2)
  cases hn:nv [way1 e p l1,way2 e p l2] n rk t p [x,y] with
  | some q=>
   rw [nv_old (by rw [hn];simp),hn]
   obtain ⟨a,b,c⟩:=(ih hx hy q).1 hn
   constructor
   ·intro e;cases e;exact ⟨by omega,b,c⟩
   ·rintro ⟨_,b2,c2⟩
    congr 1
    rcases Nat.lt_trichotomy q r with h | h | h
    ·exact absurd b (c2 q h)
    ·exact h
    ·exact absurd b2 (c r h)
  | none=>
   have hno:∀ q,q≤t→¬ Way E 8 q x y:=fun q h1 h2=>by
    have:=(hA hx hy).2 ⟨q,h1,h2⟩
    rw [hn] at this
    cases this
   by_cases hd:derives [way1 e p l1,way2 e p l2] (nv [way1 e p l1,way2 e p l2] n rk t) p [x,y]
   ·rw [nv_new hp hn hd]
    obtain ⟨q,h1,h2⟩:=hD.1 hd
    have hq:q = t + 1:=by
     by_cases hq:q≤t
     ·exact absurd h2 (hno q hq)
     ·omega
    subst hq
    constructor
    ·intro e;cases e;exact ⟨Nat.le_refl _,h2,fun m hm=>hno m (by omega)⟩
    ·rintro ⟨a,b,c⟩
     congr 1
     by_cases hr:r≤t
     ·exact absurd b (hno r hr)
     ·omega
   ·rw [nv_no hd,hn]
    constructor
    ·exact fun q=>nomatch q
    ·rintro ⟨a,b,_⟩;exact absurd (hD.2 ⟨r,a,b⟩) hd
end
end
section
open Go.RowKit
def rulesL (m:Mean) (vals:List Nat) (lay:Nat):List ClauseM:=(m.clauses.filter hasLits).filter (fun c=>decide (vals.getD c.head.rel 0 = lay))
noncomputable def leaveP (n:Nat) (vals:List Nat) (Fs:Nat→List Nat→Prop) (rk:Nat→List Nat→Option Nat) (lay:Nat):Nat→List Nat→Option Nat:=fun i=>if i < n∧vals.getD i 0 = lay then addRk (fun _=>none) (Fs i) 0 else rk i
def LayP (m:Mean) (vals:List Nat) (Fs:Nat→List Nat→Prop) (lay:Nat) (rk rk':Nat→List Nat→Option Nat):Prop:=∃ T,∀ t,T≤t→rk' = nv (rulesL m vals lay) m.rels.length (leaveP m.rels.length vals Fs rk lay) t
inductive LaysP (m:Mean) (vals:List Nat) (Fs:Nat→List Nat→Prop) (rk:Nat→List Nat→Option Nat):Nat→(Nat→List Nat→Option Nat)→Prop
 | refl:LaysP m vals Fs rk 0 rk
 | step {b:Nat} {rk1 rk2:Nat→List Nat→Option Nat}:LaysP m vals Fs rk b rk1→LayP m vals Fs b rk1 rk2→LaysP m vals Fs rk (b + 1) rk2
theorem filter_mapE {α β:Type} {f:α→β} {p:α→Bool} {q:β→Bool}:∀ (l:List α),(∀ a ∈ l,p a = q (f a))→(l.filter p).map f = (l.map f).filter q
 | [],_=>rfl
 | a :: l,h=>by
  have ih:=filter_mapE l (fun b hb=>h b (by simp [hb]))
  rw [List.map_cons,List.filter_cons,List.filter_cons,h a (by simp)]
  split
  ·rw [List.map_cons,ih]
  ·exact ih
structure RsOk (m:Mean) (vals:List Nat) (rs:List RelX):Prop where
 len:rs.length = m.rels.length
 rel:∀ (i:Nat) (r:RelX),rs[i]? = some r→r.n = (m.cols i).length∧r.layer = vals.getD i 0
theorem RsOk.lay {m:Mean} {vals:List Nat} {rs:List RelX} (h:RsOk m vals rs) {i:Nat} (hi:i < m.rels.length):layOf rs i = vals.getD i 0:=by
 obtain ⟨r,hr⟩:∃ r,rs[i]? = some r:=⟨_,List.getElem?_eq_getElem (by rw [h.len];exact hi)⟩
 unfold layOf
 rw [hr]
 exact (h.rel i r hr).2
theorem lay_pure {m:Mean} {vals:List Nat} {rs:List RelX} {ks:List CluX} (h:RsOk m vals rs) (hf:MeanFine m) (hst:StableG layG m.clauses vals) (hk:ks.map (·.c) = m.clauses.filter hasLits) {Fs:Nat→List Nat→Prop} {lay:Nat} {rk rk':Nat→List Nat→Option Nat} (hs:LayStep rs Fs ks lay rk rk'):LayP m vals Fs lay rk rk':=by
 have hcm:∀ k ∈ ks,k.c ∈ m.clauses:=fun k hkm=>by
  have:k.c ∈ m.clauses.filter hasLits:=by rw [← hk];exact List.mem_map.2 ⟨k,hkm,rfl⟩
  exact (List.mem_filter.1 this).1
 have ecs:(ks.filter (ofLay rs lay)).map (·.c) = rulesL m vals lay:=by
  unfold rulesL
  rw [← hk]
  refine filter_mapE ks (fun k hkm=>?_)
  unfold ofLay
  rw [h.lay (hf.heads _ (hcm k hkm)).rel]
 have elv:leaveRk rs Fs rk lay rs.length = leaveP m.rels.length vals Fs rk lay:=by
  funext i
  unfold leaveRk leaveP
  rw [h.len]
  by_cases hi:i < m.rels.length
  ·rw [h.lay hi]
  ·rw [if_neg (fun q=>hi q.1),if_neg (fun q=>hi q.1)]
 unfold LayStep at hs
 rw [ecs,elv,h.len] at hs
 obtain ⟨T,e,hx⟩:=hs
 have hmem:∀ c ∈ rulesL m vals lay,c ∈ m.clauses∧vals.getD c.head.rel 0 = lay:=fun c hc=>by
  unfold rulesL at hc
  obtain ⟨h1,h2⟩:=List.mem_filter.1 hc
  exact ⟨(List.mem_filter.1 h1).1,by simpa using h2⟩
 have hneg:NegOk (rulesL m vals lay):=fun c hc a ha h2 d hd e=>by
  obtain ⟨c1,c2⟩:=hmem c hc
  obtain ⟨d1,d2⟩:=hmem d hd
  have q:max (vals.getD c.head.rel 0) (vals.getD a.1.rel 0 + (if a.2 then 1 else 0)) = vals.getD c.head.rel 0:=hst c c1 a ha
  rw [h2,if_pos rfl,← e,c2,d2] at q
  omega
 have hrel:RelOk (rulesL m vals lay) m.rels.length:=fun c hc=>⟨(hf.heads c (hmem c hc).1).rel,fun a ha=>(hf.lits c (hmem c hc).1 a ha).rel⟩
 have hr:=rnd_nv (rk0:=leaveP m.rels.length vals Fs rk lay) hneg hrel
 have hcl:∀ i l,i < m.rels.length→¬ (derives (rulesL m vals lay) (nv (rulesL m vals lay) m.rels.length (leaveP m.rels.length vals Fs rk lay) T) i l∧nv (rulesL m vals lay) m.rels.length (leaveP m.rels.length vals Fs rk lay) T i l = none):=fun i l hi hd=>by
  obtain ⟨r,hri⟩:∃ r,rs[i]? = some r:=⟨_,List.getElem?_eq_getElem (by rw [h.len];exact hi)⟩
  refine hx i r l hri ?_ (((hr T).2.2 i l hi).2 hd)
  obtain ⟨c,hc,e,ν,hν,_,ht⟩:=hd.1
  have hfi:=hf.heads c (hmem c hc).1
  obtain ⟨hv1,hv2⟩:=alls_iff.1 hν
  rw [alls_iff,(h.rel i r hri).1,← ht,List.length_map,hfi.len,e]
  refine ⟨rfl,fun x hxm=>?_⟩
  obtain ⟨t,htm,rfl⟩:=List.mem_map.1 hxm
  obtain ⟨t1,t2,t3⟩:=hfi.tms t htm
  unfold tvR
  split
  ·rw [List.getD_eq_getElem?_getD]
   cases hq:ν[t.num.toNat]? with
   | none=>simp
   | some y=>exact hv2 y (List.mem_of_getElem? hq)
  ·omega
 refine ⟨T,fun t ht=>?_⟩
 obtain ⟨u,rfl⟩:∃ u,t = T + u:=⟨t - T,by omega⟩
 rw [e,(hr (T + 1)).1,nv_still hcl 1,nv_still hcl u]
theorem lays_pure {m:Mean} {vals:List Nat} {rs:List RelX} {ks:List CluX} (h:RsOk m vals rs) (hf:MeanFine m) (hst:StableG layG m.clauses vals) (hk:ks.map (·.c) = m.clauses.filter hasLits) {Fs:Nat→List Nat→Prop} {rk:Nat→List Nat→Option Nat} {b:Nat} {rk':Nat→List Nat→Option Nat} (hs:LaySteps rs Fs ks 0 rk b rk'):LaysP m vals Fs rk b rk':=by
 induction hs with
 | refl=>exact .refl
 | step _ h2 ih=>exact .step ih (lay_pure h hf hst hk h2)
theorem Made.lays {w:World} {z eb:Nat} {m:Mean} {bb:Nat} {B:SB} {S:ST} {gr cr:Nat} {rs:List RelX} {tv mv:Value} {ka:Option Addr} {ks:List CluX} {kc:Nat} {vals:List Nat} {rk:Nat→List Nat→Option Nat} (h:Made w z eb m bb B S gr cr rs tv mv ka ks kc vals rk) (hf:MeanFine m):LaysP m vals (factsOf m.clauses) (fun _ _=>none) m.rels.length rk:=by
 have hr:RsOk m vals rs:=⟨h.eng.len,fun i r hi=>by
  have hil:=(List.getElem?_eq_some_iff.1 hi).1
  obtain ⟨nm,cols,hc⟩:∃ nm cols,m.rels[i]? = some (nm,cols):=⟨_,_,List.getElem?_eq_getElem (by rw [← h.eng.len];exact hil)⟩
  obtain ⟨a,b,_⟩:=h.eng.rels i r nm cols hi hc
  exact ⟨by rw [a];simp [Mean.cols,hc],b⟩⟩
 have:=lays_pure hr hf h.stable h.eng.ksc h.steps
 rw [h.eng.len] at this
 exact this
end
section
open Go.RowKit
def ba (l:List UInt8):ByteArray:=⟨⟨l⟩⟩
theorem ba_size (l:List UInt8):(ba l).size = l.length:=rfl
theorem ba_ltr (l:List UInt8) (i:Nat):ltr (ba l) i = ((l[i]?.map (fun b=>(b.toNat:Int))).getD 0):=by
 unfold ltr
 by_cases h:i < l.length
 ·rw [dif_pos (show i < (ba l).size from h),List.getElem?_eq_getElem h];rfl
 ·rw [dif_neg (show ¬ i < (ba l).size from h),List.getElem?_eq_none (by omega)];rfl
theorem ba_ltr0 (c:UInt8) (l:List UInt8):ltr (ba (c :: l)) 0 = (c.toNat:Int):=by rw [ba_ltr];rfl
theorem ba_ext {s:ByteArray} {l:List UInt8} (h:s.data.toList = l):s = ba l:=by
 cases s with
 | mk d=>cases d with | mk x=>subst h;rfl
theorem ba_pre (p r:List UInt8):(ba (p ++ r)).extract 0 p.length = ba p:=by
 apply ba_ext
 rw [ByteArray.data_extract,Array.toList_extract]
 simp [ba,List.extract_eq_take_drop]
theorem ba_rest (p r:List UInt8):(ba (p ++ r)).extract p.length (ba (p ++ r)).size = ba r:=by
 apply ba_ext
 rw [ByteArray.data_extract,Array.toList_extract,ba_size]
 simp [ba,List.extract_eq_take_drop]
theorem spanFrom_app {q:Int→Bool}:∀ (p r:List UInt8) (i k:Nat) (s:ByteArray),(∀ j:Nat,ltr s (i + j) = ltr (ba (p ++ r)) j)→(∀ b ∈ p,q (b.toNat:Int) = true)→(q (ltr (ba r) 0) = false∨k = p.length)→p.length≤k→spanFrom q s i k = i + p.length
 | [],r,i,k,s,hs,_,hr,_=>by
  cases k with
  | zero=>rfl
  | succ k=>
   rcases hr with hr | hr
   ·have h0:=hs 0
    rw [Nat.add_zero] at h0
    rw [spanFrom,h0,List.nil_append,hr];rfl
   ·simp at hr
 | b :: p,r,i,k,s,hs,hp,hr,hk=>by
  cases k with
  | zero=>simp at hk
  | succ k=>
   have h0:=hs 0
   rw [Nat.add_zero] at h0
   rw [spanFrom,h0,List.cons_append,ba_ltr0,hp b (by simp),if_pos rfl,spanFrom_app p r (i + 1) k s (fun j=>?_) (fun c hc=>hp c (by simp [hc])) (hr.imp id (fun e=>by simpa using e)) (by simpa using hk)]
   ·simp;omega
   ·rw [show i + 1 + j = i + (j + 1) by omega,hs (j + 1),ba_ltr,ba_ltr];simp
theorem spanOf_app {q:Int→Bool} (p r:List UInt8) (hp:∀ b ∈ p,q (b.toNat:Int) = true) (hr:q (ltr (ba r) 0) = false∨r = []):spanOf q (ba (p ++ r)) = p.length:=by
 unfold spanOf
 rw [spanFrom_app p r 0 (ba (p ++ r)).size (ba (p ++ r)) (fun j=>by rw [Nat.zero_add]) hp (hr.imp id (fun e=>by rw [e,ba_size];simp)) (by rw [ba_size];simp),Nat.zero_add]
def tokB (g:Sg):List UInt8:=(txt g).data.toList
def cI (b:UInt8):Int:=(b.toNat:Int)
def tokOk:Sg→Bool
 | .name s=>match s.data.toList with
  | []=>false
  | b :: l=>isLow (cI b) && (b :: l).all (fun c=>isWord (cI c)) && decide (l.length < 6) && !((b :: l) == [100,111,109]) && !((b :: l) == [114,101,108])
 | .var s=>match s.data.toList with
  | [b]=>isCap (cI b)
  | [b,c]=>isCap (cI b) && isDig (cI c)
  | _=>false
 | .int s=>decide (s.data.toList ≠ []) && s.data.toList.all (fun c=>isDig (cI c)) && decide (s.data.toList.length≤2)
 | .fin=>false
 | _=>true
def sepOk:Sg→Int→Bool
 | .name _,x=>!isWord x
 | .dom,x=>!isWord x
 | .rel,x=>!isWord x
 | .int _,x=>!isDig x
 | .var _,x=>!isDig x
 | _,_=>true
theorem cutG_word {b:UInt8} {l r:List UInt8} (h1:isLow (cI b) = true) (h2:∀ c ∈ b :: l,isWord (cI c) = true) (h3:l.length < 6) (h4:isWord (ltr (ba r) 0) = false∨r = []):cutG (ba ((b :: l) ++ r)) = some (wordG (ba (b :: l)),(b :: l).length):=by
 unfold cutG
 have e:=spanOf_app (q:=isWord) (b :: l) r h2 h4
 rw [e,if_pos (by rw [List.cons_append,ba_ltr0];exact h1),if_pos (by simp;omega),ba_pre]
theorem wordG_name {l:List UInt8} (h1:(l == [100,111,109]) = false) (h2:(l == [114,101,108]) = false):wordG (ba l) = .name (ba l):=by
 unfold wordG
 rw [show (ba l).toList = l from lit_toList l,h1,h2];rfl
theorem cutG_tok {g:Sg} {r:List UInt8} (hg:tokOk g = true) (hr:sepOk g (ltr (ba r) 0) = true∨r = []):cutG (ba (tokB g ++ r)) = some (g,(tokB g).length):=by
 have dig_no:∀ {x:Int},isDig x = true→isLow x = false∧isCap x = false:=fun {x} h=>by
  simp only [isDig,Bool.and_eq_true,decide_eq_true_eq] at h
  simp [isCap,isLow];omega
 cases g with
 | dom=>
  have:=cutG_word (b:=100) (l:=[111,109]) (r:=r) (by decide) (by decide) (by decide) (hr.imp (fun h=>by simpa [sepOk] using h) id)
  rw [show wordG (ba [100,111,109]) = .dom by unfold wordG;rw [show (ba [100,111,109]).toList = [100,111,109] from lit_toList _];rfl] at this
  exact this
 | rel=>
  have:=cutG_word (b:=114) (l:=[101,108]) (r:=r) (by decide) (by decide) (by decide) (hr.imp (fun h=>by simpa [sepOk] using h) id)
  rw [show wordG (ba [114,101,108]) = .rel by unfold wordG;rw [show (ba [114,101,108]).toList = [114,101,108] from lit_toList _];rfl] at this
  exact this
 | name s=>
  cases s with
  | mk d=>cases d with | mk l=>
   cases l with
   | nil=>simp [tokOk] at hg
   | cons b l=>
    simp only [tokOk,Bool.and_eq_true,List.all_eq_true,decide_eq_true_eq,Bool.not_eq_true'] at hg
    obtain ⟨⟨⟨⟨h1,h2⟩,h3⟩,h4⟩,h5⟩:=hg
    have:=cutG_word (r:=r) h1 h2 h3 (hr.imp (fun h=>by simpa [sepOk] using h) id)
    rw [wordG_name h4 h5] at this
    exact this
 | var s=>
  cases s with
  | mk d=>cases d with | mk l=>
   have cap_no:∀ {x:Int},isCap x = true→isLow x = false:=fun {x} h=>by
    simp only [isCap,Bool.and_eq_true,decide_eq_true_eq] at h
    simp [isLow];omega
   match l,hg with
   | [b],hg=>
    have hb:isCap (cI b) = true:=hg
    have h0:ltr (ba (tokB (.var ⟨⟨[b]⟩⟩) ++ r)) 0 = cI b:=ba_ltr0 b r
    have hn:spanOf isDig ((ba (tokB (.var ⟨⟨[b]⟩⟩) ++ r)).extract 1 (min 2 (ba (tokB (.var ⟨⟨[b]⟩⟩) ++ r)).size)) = 0:=by
     cases r with
     | nil=>rfl
     | cons c r=>
      have he:(ba (tokB (.var ⟨⟨[b]⟩⟩) ++ c :: r)).extract 1 (min 2 (ba (tokB (.var ⟨⟨[b]⟩⟩) ++ c :: r)).size) = ba [c]:=by
       apply ba_ext
       rw [ByteArray.data_extract,Array.toList_extract,ba_size]
       have:min 2 (tokB (.var ⟨⟨[b]⟩⟩) ++ c :: r).length = 2:=by simp [tokB,txt]
       rw [this]
       simp [ba,tokB,txt,List.extract_eq_take_drop]
      rw [he]
      have hc:isDig (cI c) = false:=by
       rcases hr with hr | hr
       ·rw [ba_ltr0] at hr;simpa [sepOk,cI] using hr
       ·cases hr
      have:=spanOf_app (q:=isDig) [] [c] (by simp) (.inl (by rw [ba_ltr0];exact hc))
      exact this
    unfold cutG
    rw [h0,if_neg (by rw [cap_no hb];decide),if_pos hb,hn]
    have:=ba_pre [b] r
    rw [show (ba (tokB (.var ⟨⟨[b]⟩⟩) ++ r)).extract 0 (1 + 0) = ba [b] from this]
    rfl
   | [b,c],hg=>
    simp only [tokOk,Bool.and_eq_true] at hg
    obtain ⟨hb,hc⟩:=hg
    have h0:ltr (ba (tokB (.var ⟨⟨[b,c]⟩⟩) ++ r)) 0 = cI b:=ba_ltr0 b _
    have hn:spanOf isDig ((ba (tokB (.var ⟨⟨[b,c]⟩⟩) ++ r)).extract 1 (min 2 (ba (tokB (.var ⟨⟨[b,c]⟩⟩) ++ r)).size)) = 1:=by
     have he:(ba (tokB (.var ⟨⟨[b,c]⟩⟩) ++ r)).extract 1 (min 2 (ba (tokB (.var ⟨⟨[b,c]⟩⟩) ++ r)).size) = ba [c]:=by
      apply ba_ext
      rw [ByteArray.data_extract,Array.toList_extract,ba_size]
      have:min 2 (tokB (.var ⟨⟨[b,c]⟩⟩) ++ r).length = 2:=by simp [tokB,txt]
      rw [this]
      simp [ba,tokB,txt,List.extract_eq_take_drop]
     rw [he]
     have:=spanOf_app (q:=isDig) [c] [] (by intro x hx;simp at hx;subst hx;exact hc) (.inr rfl)
     exact this
    unfold cutG
    rw [h0,if_neg (by rw [cap_no hb];decide),if_pos hb,hn]
    have:=ba_pre [b,c] r
    rw [show (ba (tokB (.var ⟨⟨[b,c]⟩⟩) ++ r)).extract 0 (1 + 1) = ba [b,c] from this]
    rfl
 | int s=>
  cases s with
  | mk d=>cases d with | mk l=>
   simp only [tokOk,Bool.and_eq_true,List.all_eq_true,decide_eq_true_eq] at hg
   obtain ⟨⟨h1,h2⟩,h3⟩:=hg
   cases l with
   | nil=>exact absurd rfl h1
   | cons b l=>
    have hb:isDig (cI b) = true:=h2 b (by simp)
    have h0:ltr (ba (tokB (.int ⟨⟨b :: l⟩⟩) ++ r)) 0 = cI b:=ba_ltr0 b _
    have hn:spanOf isDig (ba (tokB (.int ⟨⟨b :: l⟩⟩) ++ r)) = (b :: l).length:=spanOf_app (q:=isDig) (b :: l) r h2 (hr.imp (fun h=>by simpa [sepOk] using h) id)
    unfold cutG
    rw [h0,if_neg (by rw [(dig_no hb).1];decide),if_neg (by rw [(dig_no hb).2];decide),if_pos hb,hn,if_pos h3]
    have:=ba_pre (b :: l) r
    rw [show (ba (tokB (.int ⟨⟨b :: l⟩⟩) ++ r)).extract 0 (b :: l).length = ba (b :: l) from this]
    rfl
 | fin=>cases hg
 | arrow=>
  have h0:ltr (ba (tokB .arrow ++ r)) 0 = 58:=ba_ltr0 58 _
  have ha:isArrow (ba (tokB .arrow ++ r)) = true:=by
   unfold isArrow
   have:=ba_pre (tokB .arrow) r
   rw [show (ba (tokB .arrow ++ r)).extract 0 2 = ba (tokB .arrow) from this,show (ba (tokB .arrow)).toList = [58,45] from lit_toList _]
   simp [ba_size,tokB,txt]
  unfold cutG
  rw [h0,if_neg (by decide),if_neg (by decide),if_neg (by decide),if_neg (by decide),if_pos ha]
  rfl
 | lp=>unfold cutG;rw [show ltr (ba (tokB .lp ++ r)) 0 = 40 from ba_ltr0 40 _];rfl
 | rp=>unfold cutG;rw [show ltr (ba (tokB .rp ++ r)) 0 = 41 from ba_ltr0 41 _];rfl
 | comma=>unfold cutG;rw [show ltr (ba (tokB .comma ++ r)) 0 = 44 from ba_ltr0 44 _];rfl
 | semi=>unfold cutG;rw [show ltr (ba (tokB .semi ++ r)) 0 = 59 from ba_ltr0 59 _];rfl
 | dot=>unfold cutG;rw [show ltr (ba (tokB .dot ++ r)) 0 = 46 from ba_ltr0 46 _];rfl
 | bang=>unfold cutG;rw [show ltr (ba (tokB .bang ++ r)) 0 = 33 from ba_ltr0 33 _];rfl
theorem tok_first {g:Sg} (hg:tokOk g = true) (r:List UInt8):(tokB g).length ≠ 0∧ltr (ba (tokB g ++ r)) 0 ≠ 10∧ltr (ba (tokB g ++ r)) 0 ≠ 32∧ltr (ba (tokB g ++ r)) 0 ≠ 9∧ltr (ba (tokB g ++ r)) 0 ≠ 37:=by
 have low:∀ {x:Int},isLow x = true∨isCap x = true∨isDig x = true→x ≠ 10∧x ≠ 32∧x ≠ 9∧x ≠ 37:=fun {x} h=>by
  simp only [isLow,isCap,isDig,Bool.and_eq_true,decide_eq_true_eq] at h
  omega
 have key:∀ (b:UInt8) (l:List UInt8),(isLow (cI b) = true∨isCap (cI b) = true∨isDig (cI b) = true)→(b :: l).length ≠ 0∧ltr (ba ((b :: l) ++ r)) 0 ≠ 10∧ltr (ba ((b :: l) ++ r)) 0 ≠ 32∧ltr (ba ((b :: l) ++ r)) 0 ≠ 9∧ltr (ba ((b :: l) ++ r)) 0 ≠ 37:=fun b l h=>by
  rw [show ltr (ba ((b :: l) ++ r)) 0 = cI b from ba_ltr0 b _]
  exact ⟨by simp,low h⟩
 cases g with
 | dom=>exact key 100 [111,109] (by decide)
 | rel=>exact key 114 [101,108] (by decide)
 | name s=>
  cases s with
  | mk d=>cases d with | mk l=>
   cases l with
   | nil=>simp [tokOk] at hg
   | cons b l=>
    simp only [tokOk,Bool.and_eq_true] at hg
    exact key b l (.inl hg.1.1.1.1)
 | var s=>
  cases s with
  | mk d=>cases d with | mk l=>
   match l,hg with
   | [b],hg=>exact key b [] (.inr (.inl hg))
   | [b,c],hg=>simp only [tokOk,Bool.and_eq_true] at hg;exact key b [c] (.inr (.inl hg.1))
 | int s=>
  cases s with
  | mk d=>cases d with | mk l=>
   simp only [tokOk,Bool.and_eq_true,List.all_eq_true,decide_eq_true_eq] at hg
   cases l with
   | nil=>exact absurd rfl hg.1.1
   | cons b l=>exact key b l (.inr (.inr (hg.1.2 b (by simp))))
 | fin=>cases hg
 | arrow=>rw [show ltr (ba (tokB .arrow ++ r)) 0 = 58 from ba_ltr0 58 _];decide
 | lp=>rw [show ltr (ba (tokB .lp ++ r)) 0 = 40 from ba_ltr0 40 _];decide
 | rp=>rw [show ltr (ba (tokB .rp ++ r)) 0 = 41 from ba_ltr0 41 _];decide
 | comma=>rw [show ltr (ba (tokB .comma ++ r)) 0 = 44 from ba_ltr0 44 _];decide
 | semi=>rw [show ltr (ba (tokB .semi ++ r)) 0 = 59 from ba_ltr0 59 _];decide
 | dot=>rw [show ltr (ba (tokB .dot ++ r)) 0 = 46 from ba_ltr0 46 _];decide
 | bang=>rw [show ltr (ba (tokB .bang ++ r)) 0 = 33 from ba_ltr0 33 _];decide
inductive Pc where
 | t (g:Sg)
 | sp
 | nl
def pcB:Pc→List UInt8
 | .t g=>tokB g
 | .sp=>[32]
 | .nl=>[10]
def bytesP (ps:List Pc):List UInt8:=ps.flatMap pcB
def toksP:List Pc→Nat→List Tn
 | [],_=>[]
 | .t g :: ps,l=>⟨g,l⟩ :: toksP ps l
 | .sp :: ps,l=>toksP ps l
 | .nl :: ps,l=>toksP ps (l + 1)
def lineP:List Pc→Nat→Nat
 | [],l=>l
 | .t _ :: ps,l=>lineP ps l
 | .sp :: ps,l=>lineP ps l
 | .nl :: ps,l=>lineP ps (l + 1)
def okP:List Pc→Bool
 | []=>true
 | .t g :: ps=>tokOk g && (ps.isEmpty || sepOk g (ltr (ba (bytesP ps)) 0)) && okP ps
 | _ :: ps=>okP ps
theorem bytesP_cons (p:Pc) (ps:List Pc):bytesP (p :: ps) = pcB p ++ bytesP ps:=by simp [bytesP]
theorem bytesP_append (ps qs:List Pc):bytesP (ps ++ qs) = bytesP ps ++ bytesP qs:=by simp [bytesP]
theorem scan_pieces:∀ (ps:List Pc) (k l:Nat),okP ps = true→(bytesP ps).length≤k→scanT k (ba (bytesP ps)) l = .inl (toksP ps l,lineP ps l)
 | [],k,l,_,_=>by cases k <;> rfl
 | .sp :: ps,k,l,h,hk=>by
  rw [bytesP_cons] at hk ⊢
  cases k with
  | zero=>simp [pcB] at hk
  | succ k=>
   have hr:=ba_rest [32] (bytesP ps)
   rw [scanT,if_neg (by rw [ba_size];simp [pcB]),show ltr (ba (pcB .sp ++ bytesP ps)) 0 = 32 from ba_ltr0 32 _,if_neg (by decide),if_pos (.inl rfl),show (ba (pcB .sp ++ bytesP ps)).extract 1 (ba (pcB .sp ++ bytesP ps)).size = ba (bytesP ps) from hr]
   exact scan_pieces ps k l h (by simpa [pcB] using hk)
 | .nl :: ps,k,l,h,hk=>by
  rw [bytesP_cons] at hk ⊢
  cases k with
  | zero=>simp [pcB] at hk
  | succ k=>
   have hr:=ba_rest [10] (bytesP ps)
   rw [scanT,if_neg (by rw [ba_size];simp [pcB]),show ltr (ba (pcB .nl ++ bytesP ps)) 0 = 10 from ba_ltr0 10 _,if_pos rfl,show (ba (pcB .nl ++ bytesP ps)).extract 1 (ba (pcB .nl ++ bytesP ps)).size = ba (bytesP ps) from hr]
   exact scan_pieces ps k (l + 1) h (by simpa [pcB] using hk)
 | .t g :: ps,k,l,h,hk=>by
  rw [bytesP_cons] at hk ⊢
  simp only [okP,Bool.and_eq_true,Bool.or_eq_true] at h
  obtain ⟨⟨h1,h2⟩,h3⟩:=h
  obtain ⟨f0,f1,f2,f3,f4⟩:=tok_first h1 (bytesP ps)
  have hc:=cutG_tok (r:=bytesP ps) h1 (h2.symm.imp id (fun e=>by cases ps <;> simp at e;rfl))
  have hr:=ba_rest (tokB g) (bytesP ps)
  cases k with
  | zero=>simp [pcB] at hk;exact absurd (by rw [hk.1];rfl) f0
  | succ k=>
   show scanT (k + 1) (ba (tokB g ++ bytesP ps)) l = _
   have hk2:(tokB g).length + (bytesP ps).length≤k + 1:=by simpa [pcB] using hk
   rw [scanT,if_neg (by rw [ba_size];simp;intro e;exact absurd (by rw [e];rfl) f0),if_neg f1,if_neg (by rintro (e | e);exact f2 e;exact f3 e),if_neg f4,hc]
   simp only [hr]
   rw [scan_pieces ps k l h3 (by omega)]
   rfl
end
end Go.Proofs.YtgjomknpjigkhaaGreatDoor
