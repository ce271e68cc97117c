namespace Go.Proofs.YtgjomknpjigkhaaGreatDoor
set_option maxRecDepth 100000
set_option maxHeartbeats 4000000
section
section
variable {α β:Type} [DecidableEq α]
def get (L:List (α×β)) (k:α):Option β:=(L.find? (fun p=>decide (p.1=k))).map Prod.snd
def put (L:List (α×β)) (k:α) (v:β):List (α×β):=
 if (get L k).isSome then L.map (fun p=>if p.1=k then (k,v) else p) else L++[(k,v)]
def del (L:List (α×β)) (k:α):List (α×β):=L.filter (fun p=>decide (p.1≠k))
theorem get_nil (k:α):get ([]:List (α×β)) k=none:=rfl
theorem get_cons (p:α×β) (L:List (α×β)) (k:α):get (p :: L) k=if p.1=k then some p.2 else get L k:=by
 unfold get
 by_cases h:p.1=k <;> simp [h]
theorem get_none_iff {L:List (α×β)} {k:α}:get L k=none↔∀ p∈L,p.1≠k:=by
 induction L with
 | nil=>simp [get_nil]
 | cons p L ih=>
  rw [get_cons]
  by_cases h:p.1=k
  ·simp [h]
  ·simp [h,ih]
theorem get_some_mem {L:List (α×β)} {k:α} {v:β} (h:get L k=some v):(k,v)∈L:=by
 induction L with
 | nil=>simp [get_nil] at h
 | cons p L ih=>
  rw [get_cons] at h
  by_cases hp:p.1=k
  ·simp [hp] at h;subst h;subst hp;simp
  ·simp [hp] at h;exact List.mem_cons_of_mem _ (ih h)
theorem get_of_mem {L:List (α×β)} (hn:(L.map Prod.fst).Nodup) {k:α} {v:β} (h:(k,v)∈L):get L k=some v:=by
 induction L with
 | nil=>simp at h
 | cons p L ih=>
  rw [get_cons]
  simp only [List.map_cons,List.nodup_cons] at hn
  rcases List.mem_cons.1 h with rfl | h
  ·simp
  ·have:p.1≠k:=fun e=>hn.1 (by rw [e];exact List.mem_map.2 ⟨_,h,rfl⟩)
   simp [this,ih hn.2 h]
theorem get_append (L M:List (α×β)) (k:α):get (L++M) k=(get L k).or (get M k):=by
 induction L with
 | nil=>simp [get_nil]
 | cons p L ih=>
  rw [List.cons_append,get_cons,get_cons,ih]
  by_cases h:p.1=k <;> simp [h]
theorem get_put (L:List (α×β)) (k:α) (v:β) (k':α):get (put L k v) k' = if k' = k then some v else get L k':=by
 unfold put
 cases hk:(get L k).isSome with
 | true=>
  simp only [if_true]
  have key:∀ M:List (α×β),get (M.map (fun p=>if p.1=k then (k,v) else p)) k' = if k' = k then (if (get M k).isSome then some v else none) else get M k':=by
   intro M
   induction M with
   | nil=>simp [get_nil]
   | cons p M ih=>
    rw [List.map_cons,get_cons,ih,get_cons,get_cons]
    by_cases hp:p.1=k
    ·simp only [hp,if_true]
     by_cases hkk:k=k'
     ·subst hkk;simp
     ·have:¬ k' = k:=fun e=>hkk e.symm
      simp [hkk,this]
    ·simp only [hp,if_false]
     by_cases hpk:p.1=k'
     ·have:¬ k' = k:=fun e=>hp (hpk.trans e)
      simp [hpk,this]
     ·simp [hpk]
  rw [key L]
  simp [hk]
 | false=>
  simp only [Bool.false_eq_true,if_false]
  rw [get_append,get_cons,get_nil]
  have hn:get L k=none:=by simpa using hk
  by_cases h:k' = k
  ·subst h;simp [hn]
  ·have:¬ k=k':=fun e=>h e.symm
   simp [h,this]
theorem get_del (L:List (α×β)) (k k':α):get (del L k) k' = if k' = k then none else get L k':=by
 unfold del
 induction L with
 | nil=>simp [get_nil]
 | cons p L ih=>
  by_cases hp:p.1=k
  ·rw [List.filter_cons_of_neg (by simp [hp]),ih,get_cons]
   by_cases h:k' = k
   ·simp [h]
   ·have:¬ p.1=k':=fun e=>h (e.symm.trans hp)
    simp [h,this]
  ·rw [List.filter_cons_of_pos (by simp [hp]),get_cons,ih,get_cons]
   by_cases h:p.1=k'
   ·have:¬ k' = k:=fun e=>hp (h.trans e)
    simp [h,this]
   ·simp [h]
theorem keys_put (L:List (α×β)) (k:α) (v:β):(put L k v).map Prod.fst=if (get L k).isSome then L.map Prod.fst else L.map Prod.fst++[k]:=by
 unfold put
 cases (get L k).isSome with
 | true=>
  simp only [if_true,List.map_map]
  apply List.map_congr_left
  intro p _
  by_cases h:p.1=k <;> simp [h]
 | false=>simp
theorem nodup_put {L:List (α×β)} (hn:(L.map Prod.fst).Nodup) (k:α) (v:β):((put L k v).map Prod.fst).Nodup:=by
 rw [keys_put]
 cases hk:(get L k).isSome with
 | true=>simpa using hn
 | false=>
  have h0:get L k=none:=by simpa using hk
  simp only [Bool.false_eq_true,if_false]
  rw [List.nodup_append]
  refine ⟨hn,by simp,fun a ha b hb=>?_⟩
  simp only [List.mem_singleton] at hb
  subst hb
  obtain ⟨p,hp,rfl⟩:=List.mem_map.1 ha
  exact get_none_iff.1 h0 p hp
theorem nodup_del {L:List (α×β)} (hn:(L.map Prod.fst).Nodup) (k:α):((del L k).map Prod.fst).Nodup:=
 List.Nodup.sublist (List.Sublist.map _ List.filter_sublist) hn
theorem length_put_new {L:List (α×β)} {k:α} (v:β) (h:get L k=none):(put L k v).length=L.length+1:=by
 unfold put;simp [h]
theorem put_replaces {L:List (α×β)} (hn:(L.map Prod.fst).Nodup) {a:α} {v:β} {j:Nat} (v':β) (hj:L[j]?=some (a,v)) :
  L.map (fun p=>if p.1=a then (a,v') else p)=L.set j (a,v'):=by
 induction L generalizing j with
 | nil=>simp at hj
 | cons p L ih=>
  simp only [List.map_cons,List.nodup_cons] at hn
  cases j with
  | zero=>
   simp only [List.getElem?_cons_zero,Option.some.injEq] at hj
   subst hj
   simp only [List.map_cons,if_true,List.set_cons_zero,List.cons.injEq,true_and]
   conv=>rhs;rw [←List.map_id L]
   apply List.map_congr_left
   intro q hq
   have:q.1≠a:=fun e=>hn.1 (by rw [←e];exact List.mem_map.2 ⟨_,hq,rfl⟩)
   simp [this]
  | succ j=>
   simp only [List.getElem?_cons_succ] at hj
   have:p.1≠a:=fun e=>hn.1 (by rw [e];exact List.mem_map.2 ⟨_,List.mem_of_getElem? hj,rfl⟩)
   simp only [List.map_cons,this,if_false,List.set_cons_succ,ih hn.2 hj]
theorem del_erases {L:List (α×β)} (hn:(L.map Prod.fst).Nodup) {a:α} {v:β} {j:Nat} (hj:L[j]?=some (a,v)):del L a=L.eraseIdx j:=by
 unfold del
 induction L generalizing j with
 | nil=>simp at hj
 | cons p L ih=>
  simp only [List.map_cons,List.nodup_cons] at hn
  cases j with
  | zero=>
   simp only [List.getElem?_cons_zero,Option.some.injEq] at hj
   subst hj
   rw [List.filter_cons_of_neg (by simp),List.eraseIdx_cons_zero,List.filter_eq_self]
   intro q hq
   have:q.1≠a:=fun e=>hn.1 (by rw [←e];exact List.mem_map.2 ⟨_,hq,rfl⟩)
   simpa using this
  | succ j=>
   simp only [List.getElem?_cons_succ] at hj
   have:p.1≠a:=fun e=>hn.1 (by rw [e];exact List.mem_map.2 ⟨_,List.mem_of_getElem? hj,rfl⟩)
   rw [List.filter_cons_of_pos (by simpa using this),List.eraseIdx_cons_succ,ih hn.2 hj]
theorem del_absent {L:List (α×β)} {a:α} (h:get L a=none):del L a=L:=by
 unfold del
 rw [List.filter_eq_self]
 intro q hq
 simpa using get_none_iff.1 h q hq
end
end
section
abbrev Tri:=Int×Int×Int
structure ST where
 order:List Int
 place:List Int
 N:List (Int×Tri)
 U:List (Tri×Int)
 next:Int
 K:List (Tri×Int)
def ST.n (S:ST):Nat:=S.order.length
def ST.pl (S:ST) (v:Int):Int:=(S.place[v.toNat]?).getD 0
def ST.lev (S:ST) (f:Int):Int:=if f≤1 then S.n else match get S.N f with | some t=>S.pl t.1 | none=>0
def ST.ok (S:ST) (f:Int):Prop:=f=0∨f=1∨(2≤f∧∃ t,get S.N f=some t)
structure Ordered (order place:List Int):Prop where
 len:place.length=order.length
 op:∀ (i:Nat) (v:Int),order[i]?=some v→0≤v∧v<order.length∧place[v.toNat]?=some (i:Int)
 po:∀ (v:Nat) (p:Int),place[v]?=some p→0≤p∧p<order.length∧order[p.toNat]?=some (v:Int)
structure WF (S:ST):Prop where
 ord:Ordered S.order S.place
 two:2≤S.next
 node:∀ f v l h,get S.N f=some (v,l,h)→2≤f∧f<S.next∧0≤v∧v<S.n∧l≠h∧S.ok l∧S.ok h∧S.pl v<S.lev l∧S.pl v<S.lev h
 inv:∀ t f,get S.U t=some f↔get S.N f=some t
def ev (N:List (Int×Tri)):Nat→Int→(Int→Bool)→Bool
 | 0,f,_=>decide (f=1)
 | k+1,f,σ=>if f≤1 then decide (f=1) else match get N f with
  | none=>false
  | some t=>if σ t.1 then ev N k t.2.2 σ else ev N k t.2.1 σ
def ST.den (S:ST) (f:Int) (σ:Int→Bool):Bool:=ev S.N S.n f σ
section
variable {S:ST}
theorem WF.pl_range (h:WF S) {v:Int} (h0:0≤v) (h1:v<S.n):0≤S.pl v∧S.pl v<S.n∧S.order[(S.pl v).toNat]?=some v∧S.place[v.toNat]?=some (S.pl v):=by
 have hl:v.toNat<S.place.length:=by rw [h.ord.len];unfold ST.n at h1;omega
 have e:S.place[v.toNat]?=some (S.place[v.toNat]):=List.getElem?_eq_getElem hl
 obtain ⟨a,b,c⟩:=h.ord.po _ _ e
 have ep:S.pl v=S.place[v.toNat]:=by unfold ST.pl;rw [e];rfl
 rw [ep]
 refine ⟨a,b,?_,e⟩
 rw [c];congr 1;omega
theorem WF.pl_inj (h:WF S) {u v:Int} (u0:0≤u) (u1:u<S.n) (v0:0≤v) (v1:v<S.n) (e:S.pl u=S.pl v):u=v:=by
 obtain ⟨_,_,a,_⟩:=h.pl_range u0 u1
 obtain ⟨_,_,b,_⟩:=h.pl_range v0 v1
 rw [e,b] at a
 exact (Option.some.inj a).symm
theorem lev_low {f:Int} (h:f≤1):S.lev f=S.n:=by simp [ST.lev,h]
theorem lev_node (hw:WF S) {f:Int} {t:Tri} (h:get S.N f=some t):S.lev f=S.pl t.1:=by
 obtain ⟨v,l,r⟩:=t
 have:=(hw.node f v l r h).1
 have:¬ f≤1:=by omega
 simp [ST.lev,this,h]
theorem lev_range (hw:WF S) {f:Int} (h:S.ok f):0≤S.lev f∧S.lev f≤S.n:=by
 rcases h with rfl | rfl | ⟨_,t,ht⟩
 ·rw [lev_low (by omega)];omega
 ·rw [lev_low (by omega)];omega
 ·rw [lev_node hw ht]
  obtain ⟨v,l,r⟩:=t
  obtain ⟨_,_,a,b,_⟩:=hw.node f v l r ht
  have:=hw.pl_range a b
  dsimp only
  exact ⟨this.1,by omega⟩
theorem lev_lt_iff (hw:WF S) {f:Int} (h:S.ok f):S.lev f<S.n↔2≤f:=by
 rcases h with rfl | rfl | ⟨h2,t,ht⟩
 ·rw [lev_low (by omega)];omega
 ·rw [lev_low (by omega)];omega
 ·rw [lev_node hw ht]
  obtain ⟨v,l,r⟩:=t
  obtain ⟨_,_,a,b,_⟩:=hw.node f v l r ht
  have:=hw.pl_range a b
  exact ⟨fun _=>h2,fun _=>this.2.1⟩
theorem ev_fuel (hw:WF S):∀ (k:Nat) (f:Int) (σ:Int→Bool),S.ok f→(S.n:Int) - S.lev f≤k→ev S.N (k+1) f σ=ev S.N k f σ
 | 0,f,σ,hf,hk=>by
  rcases hf with rfl | rfl | ⟨h2,t,ht⟩
  ·simp [ev]
  ·simp [ev]
  ·exfalso
   have:=(lev_lt_iff hw (.inr (.inr ⟨h2,t,ht⟩))).2 h2
   omega
 | k+1,f,σ,hf,hk=>by
  rcases hf with rfl | rfl | ⟨h2,t,ht⟩
  ·simp [ev]
  ·simp [ev]
  ·have h1:¬ f≤1:=by omega
   obtain ⟨v,l,r⟩:=t
   have hn:=hw.node f v l r ht
   rw [lev_node hw ht] at hk
   dsimp only at hk
   rw [ev,ev]
   simp only [h1,if_false,ht]
   rw [ev_fuel hw k r σ hn.2.2.2.2.2.2.1 (by omega),ev_fuel hw k l σ hn.2.2.2.2.2.1 (by omega)]
theorem ev_enough (hw:WF S) {k:Nat} {f:Int} (σ:Int→Bool) (hf:S.ok f) (hk:(S.n:Int) - S.lev f≤k):∀ (m:Nat),ev S.N (k+m) f σ=ev S.N k f σ
 | 0=>rfl
 | m+1=>by rw [←Nat.add_assoc,ev_fuel hw (k+m) f σ hf (by omega),ev_enough hw σ hf hk m]
theorem den_zero (σ:Int→Bool):S.den 0 σ=false:=by unfold ST.den;cases S.n <;> simp [ev]
theorem den_one (σ:Int→Bool):S.den 1 σ=true:=by unfold ST.den;cases S.n <;> simp [ev]
theorem den_node (hw:WF S) {f v l h:Int} (ht:get S.N f=some (v,l,h)) (σ:Int→Bool):S.den f σ=if σ v then S.den h σ else S.den l σ:=by
 have hn:=hw.node f v l h ht
 have hp:=hw.pl_range hn.2.2.1 hn.2.2.2.1
 have h1:¬ f≤1:=by omega
 unfold ST.den
 obtain ⟨m,hm⟩:∃ m,S.n=m+1:=⟨S.n - 1,by omega⟩
 have el:ev S.N S.n l σ=ev S.N m l σ:=by rw [hm];exact ev_fuel hw m l σ hn.2.2.2.2.2.1 (by omega)
 have eh:ev S.N S.n h σ=ev S.N m h σ:=by rw [hm];exact ev_fuel hw m h σ hn.2.2.2.2.2.2.1 (by omega)
 rw [el,eh,hm,ev]
 simp only [h1,if_false,ht]
theorem node_induct (hw:WF S) {p:Int→Prop} (p0:p 0) (p1:p 1) (step:∀ f v l h,get S.N f=some (v,l,h)→S.ok l→S.ok h→p l→p h→p f):∀ f,S.ok f→p f:=by
 have key:∀ (m:Nat) (f:Int),S.ok f→(S.n:Int) - S.lev f≤m→p f:=by
  intro m
  induction m with
  | zero=>
   intro f hf hm
   rcases hf with rfl | rfl | ⟨h2,t,ht⟩
   ·exact p0
   ·exact p1
   ·exfalso
    have:=(lev_lt_iff hw (.inr (.inr ⟨h2,t,ht⟩))).2 h2
    omega
  | succ m ih=>
   intro f hf hm
   rcases hf with rfl | rfl | ⟨h2,t,ht⟩
   ·exact p0
   ·exact p1
   ·obtain ⟨v,l,h⟩:=t
    have hn:=hw.node f v l h ht
    rw [lev_node hw ht] at hm
    dsimp only at hm
    exact step f v l h ht hn.2.2.2.2.2.1 hn.2.2.2.2.2.2.1 (ih l hn.2.2.2.2.2.1 (by omega)) (ih h hn.2.2.2.2.2.2.1 (by omega))
 intro f hf
 exact key S.n f hf (by have:=(lev_range hw hf).1;omega)
theorem den_congr (hw:WF S) {f:Int} (hf:S.ok f):∀ (σ τ:Int→Bool),(∀ v:Int,0≤v→v<S.n→S.lev f≤S.pl v→σ v=τ v)→S.den f σ=S.den f τ:=by
 refine node_induct hw (p:=fun f=>∀ (σ τ:Int→Bool),(∀ v:Int,0≤v→v<S.n→S.lev f≤S.pl v→σ v=τ v)→S.den f σ=S.den f τ) ?_ ?_ ?_ f hf
 ·intro σ τ _;rw [den_zero,den_zero]
 ·intro σ τ _;rw [den_one,den_one]
 ·intro f v l h ht hl hh il ih σ τ hst
  have hn:=hw.node f v l h ht
  rw [lev_node hw ht] at hst
  dsimp only at hst
  rw [den_node hw ht,den_node hw ht,hst v hn.2.2.1 hn.2.2.2.1 (Int.le_refl _)]
  rw [ih σ τ (fun u u0 u1 u2=>hst u u0 u1 (by omega)),il σ τ (fun u u0 u1 u2=>hst u u0 u1 (by omega))]
def upd (σ:Int→Bool) (v:Int) (b:Bool):Int→Bool:=fun u=>if u=v then b else σ u
theorem den_upd_above (hw:WF S) {f v:Int} (hf:S.ok f) (v0:0≤v) (v1:v<S.n) (hv:S.pl v<S.lev f) (σ:Int→Bool) (b:Bool):S.den f (upd σ v b)=S.den f σ:=
 den_congr hw hf _ _ fun u u0 u1 u2=>by
  have:u≠v:=fun e=>by subst e;omega
  simp [upd,this]
theorem canon (hw:WF S):∀ (m:Nat) (f g:Int),S.ok f→S.ok g→(S.n:Int) - S.lev f≤m∧(S.n:Int) - S.lev g≤m→(∀ σ,S.den f σ=S.den g σ)→f=g:=by
 intro m
 induction m with
 | zero=>
  intro f g hf hg hm he
  have a:=lev_range hw hf
  have b:=lev_range hw hg
  have f2:¬ 2≤f:=fun h=>by have:=(lev_lt_iff hw hf).2 h;omega
  have g2:¬ 2≤g:=fun h=>by have:=(lev_lt_iff hw hg).2 h;omega
  have:=he (fun _=>true)
  rcases hf with rfl | rfl | ⟨h2,_⟩
  ·rcases hg with rfl | rfl | ⟨h2,_⟩
   ·rfl
   ·rw [den_zero,den_one] at this;cases this
   ·exact absurd h2 g2
  ·rcases hg with rfl | rfl | ⟨h2,_⟩
   ·rw [den_zero,den_one] at this;cases this
   ·rfl
   ·exact absurd h2 g2
  ·exact absurd h2 f2
 | succ m ih=>
  intro f g hf hg hm he
  have a:=lev_range hw hf
  have b:=lev_range hw hg
  have strict:∀ f g,S.ok f→S.ok g→S.lev f<S.lev g→(S.n:Int) - S.lev f≤m+1∧(S.n:Int) - S.lev g≤m+1→(∀ σ,S.den f σ=S.den g σ)→False:=by
   intro f g hf hg hlt hm he
   have b:=lev_range hw hg
   have f2:=(lev_lt_iff hw hf).1 (by omega)
   rcases hf with rfl | rfl | ⟨_,t,ht⟩
   ·omega
   ·omega
   ·obtain ⟨v,l,h⟩:=t
    have hn:=hw.node f v l h ht
    rw [lev_node hw ht] at hlt hm
    dsimp only at hlt hm
    obtain ⟨_,_,v0,v1,lh,okl,okh,pll,plh⟩:=hn
    have hll:=lev_range hw okl
    have hlh:=lev_range hw okh
    refine lh (ih l h okl okh (by omega) fun σ=>?_)
    have e1:=he (upd σ v false)
    have e2:=he (upd σ v true)
    rw [den_node hw ht,den_upd_above hw hg v0 v1 hlt] at e1 e2
    rw [show upd σ v false v=false by simp [upd]] at e1
    rw [show upd σ v true v=true by simp [upd],if_pos rfl] at e2
    have e3:=den_upd_above hw okl v0 v1 pll σ false
    have e4:=den_upd_above hw okh v0 v1 plh σ true
    simp only [Bool.false_eq_true,if_false] at e1
    rw [e3] at e1
    rw [e4] at e2
    rw [e1,e2]
  rcases Int.lt_trichotomy (S.lev f) (S.lev g) with hlt | heq | hgt
  ·exact (strict f g hf hg hlt hm he).elim
  ·by_cases f2:2≤f
   ·have hfl:=(lev_lt_iff hw hf).2 f2
    have g2:=(lev_lt_iff hw hg).1 (by omega)
    rcases hf with rfl | rfl | ⟨_,t,ht⟩
    ·omega
    ·omega
    rcases hg with rfl | rfl | ⟨_,u,hu⟩
    ·omega
    ·omega
    obtain ⟨v,l,h⟩:=t
    obtain ⟨v',l',h'⟩:=u
    have hn:=hw.node f v l h ht
    have hn':=hw.node g v' l' h' hu
    rw [lev_node hw ht,lev_node hw hu] at heq
    rw [lev_node hw ht,lev_node hw hu] at hm
    dsimp only at heq hm
    obtain ⟨_,_,v0,v1,lh,okl,okh,pll,plh⟩:=hn
    obtain ⟨_,_,v0',v1',lh',okl',okh',pll',plh'⟩:=hn'
    have ev:=hw.pl_inj v0 v1 v0' v1' heq
    subst ev
    have hll:=lev_range hw okl
    have hlh:=lev_range hw okh
    have hll':=lev_range hw okl'
    have hlh':=lev_range hw okh'
    have el:l=l':=ih l l' okl okl' (by omega) fun σ=>by
     have e1:=he (upd σ v false)
     rw [den_node hw ht,den_node hw hu] at e1
     have e3:=den_upd_above hw okl v0 v1 pll σ false
     have e4:=den_upd_above hw okl' v0 v1 pll' σ false
     rw [←e3,←e4]
     simpa [upd] using e1
    have eh:h=h':=ih h h' okh okh' (by omega) fun σ=>by
     have e1:=he (upd σ v true)
     rw [den_node hw ht,den_node hw hu] at e1
     have e3:=den_upd_above hw okh v0 v1 plh σ true
     have e4:=den_upd_above hw okh' v0 v1 plh' σ true
     rw [←e3,←e4]
     simpa [upd] using e1
    subst el;subst eh
    have i1:=(hw.inv _ _).2 ht
    have i2:=(hw.inv _ _).2 hu
    rw [i1] at i2
    exact Option.some.inj i2
   ·have g2:¬ 2≤g:=fun h=>by
     have:=(lev_lt_iff hw hg).2 h
     have:=(lev_lt_iff hw hf).1 (by omega)
     omega
    have:=he (fun _=>true)
    rcases hf with rfl | rfl | ⟨h2,_⟩
    ·rcases hg with rfl | rfl | ⟨h2,_⟩
     ·rfl
     ·rw [den_zero,den_one] at this;cases this
     ·exact absurd h2 g2
    ·rcases hg with rfl | rfl | ⟨h2,_⟩
     ·rw [den_zero,den_one] at this;cases this
     ·rfl
     ·exact absurd h2 g2
    ·exact absurd h2 f2
  ·exact (strict g f hg hf hgt (by omega) fun σ=>(he σ).symm).elim
theorem den_inj (hw:WF S) {f g:Int} (hf:S.ok f) (hg:S.ok g) (he:∀ σ,S.den f σ=S.den g σ):f=g:=
 canon hw S.n f g hf hg ⟨by have:=(lev_range hw hf).1;omega,by have:=(lev_range hw hg).1;omega⟩ he
structure Sub (S S':ST):Prop where
 order:S'.order=S.order
 place:S'.place=S.place
 next:S.next≤S'.next
 node:∀ f t,get S.N f=some t→get S'.N f=some t
theorem Sub.refl (S:ST):Sub S S:=⟨rfl,rfl,Int.le_refl _,fun _ _ h=>h⟩
theorem Sub.trans {A B C:ST} (h:Sub A B) (k:Sub B C):Sub A C:=⟨k.order.trans h.order,k.place.trans h.place,Int.le_trans h.next k.next,fun f t ht=>k.node f t (h.node f t ht)⟩
variable {S':ST}
theorem Sub.n (h:Sub S S'):S'.n=S.n:=by unfold ST.n;rw [h.order]
theorem Sub.pl (h:Sub S S') (v:Int):S'.pl v=S.pl v:=by unfold ST.pl;rw [h.place]
theorem Sub.ok (h:Sub S S') {f:Int} (hf:S.ok f):S'.ok f:=by
 rcases hf with h0 | h0 | ⟨h2,t,ht⟩
 ·exact .inl h0
 ·exact .inr (.inl h0)
 ·exact .inr (.inr ⟨h2,t,h.node f t ht⟩)
theorem Sub.lev (h:Sub S S') {f:Int} (hf:S.ok f):S'.lev f=S.lev f:=by
 rcases hf with rfl | rfl | ⟨h2,t,ht⟩
 ·rw [lev_low (by omega),lev_low (by omega),h.n]
 ·rw [lev_low (by omega),lev_low (by omega),h.n]
 ·have:¬ f≤1:=by omega
  simp only [ST.lev,this,if_false,ht,h.node f t ht,h.pl]
theorem Sub.den (h:Sub S S') (hw:WF S) (hw':WF S') {f:Int} (hf:S.ok f) (σ:Int→Bool):S'.den f σ=S.den f σ:=by
 refine node_induct hw (p:=fun f=>S'.den f σ=S.den f σ) ?_ ?_ ?_ f hf
 ·rw [den_zero,den_zero]
 ·rw [den_one,den_one]
 ·intro f v l h' ht _ _ il ih
  rw [den_node hw ht,den_node hw' (h.node _ _ ht),il,ih]
end
structure Ext (S S':ST):Prop extends Sub S S' where
 len:(S'.N.length:Int) - S'.next=(S.N.length:Int) - S.next
theorem Ext.refl (S:ST):Ext S S:=⟨Sub.refl S,rfl⟩
theorem Ext.trans {A B C:ST} (h:Ext A B) (k:Ext B C):Ext A C:=⟨h.toSub.trans k.toSub,k.len.trans h.len⟩
def ST.add (S:ST) (t:Tri):ST:={ S with N:=put S.N S.next t,U:=put S.U t S.next,next:=S.next+1 }
theorem add_ext {S:ST} (hw:WF S) (t:Tri):Ext S (S.add t):=by
 have hnone:get S.N S.next=none:=by
  cases hg:get S.N S.next with
  | none=>rfl
  | some u=>obtain ⟨a,b,c⟩:=u;have:=hw.node _ a b c hg;omega
 refine ⟨⟨rfl,rfl,by simp [ST.add];omega,fun f u hu=>?_⟩,?_⟩
 ·obtain ⟨v,l,h⟩:=u
  have:=hw.node f v l h hu
  have hne:f≠S.next:=by omega
  simp [ST.add,get_put,hne,hu]
 ·have e:=length_put_new t hnone
  simp only [ST.add]
  rw [e]
  omega
theorem add_wf {S:ST} (hw:WF S) {v l h:Int} (v0:0≤v) (v1:v<S.n) (hlh:l≠h) (okl:S.ok l) (okh:S.ok h) (pl:S.pl v<S.lev l) (ph:S.pl v<S.lev h) (hnew:get S.U (v,l,h)=none) :
  WF (S.add (v,l,h))∧get (S.add (v,l,h)).N S.next=some (v,l,h):=by
 have hx:=add_ext hw (v,l,h)
 have hat:get (S.add (v,l,h)).N S.next=some (v,l,h):=by simp [ST.add,get_put]
 have hnone:get S.N S.next=none:=by
  cases hg:get S.N S.next with
  | none=>rfl
  | some u=>obtain ⟨a,b,c⟩:=u;have:=hw.node _ a b c hg;omega
 refine ⟨⟨hw.ord,by have:=hw.two;simp [ST.add];omega,?_,?_⟩,hat⟩
 ·intro f a b c hg
  have hn:(S.add (v,l,h)).n=S.n:=rfl
  have hp:∀ u,(S.add (v,l,h)).pl u=S.pl u:=fun _=>rfl
  have hnx:(S.add (v,l,h)).next=S.next+1:=rfl
  by_cases hf:f=S.next
  ·subst hf
   rw [hat] at hg
   have e:=Option.some.inj hg
   simp only [Prod.mk.injEq] at e
   obtain ⟨rfl,rfl,rfl⟩:=e
   rw [hn,hp,hx.lev okl,hx.lev okh,hnx]
   exact ⟨hw.two,by omega,v0,v1,hlh,hx.ok okl,hx.ok okh,pl,ph⟩
  ·have hg':get S.N f=some (a,b,c):=by simpa [ST.add,get_put,hf] using hg
   obtain ⟨x1,x2,x3,x4,x5,x6,x7,x8,x9⟩:=hw.node f a b c hg'
   rw [hn,hp,hx.lev x6,hx.lev x7,hnx]
   exact ⟨x1,by omega,x3,x4,x5,hx.ok x6,hx.ok x7,x8,x9⟩
 ·intro t f
  simp only [ST.add,get_put]
  by_cases ht:t=(v,l,h)
  ·subst ht
   simp only [if_true,Option.some.injEq]
   constructor
   ·intro e;subst e;simp
   ·intro e
    by_cases hf:f=S.next
    ·exact hf.symm
    ·simp only [hf,if_false] at e
     rw [(hw.inv _ _).2 e] at hnew
     cases hnew
  ·simp only [ht,if_false]
   rw [hw.inv]
   by_cases hf:f=S.next
   ·subst hf
    rw [hnone]
    simp only [if_true,Option.some.injEq]
    exact ⟨fun e=>(nomatch e),fun e=>absurd e.symm ht⟩
   ·simp [hf]
def ST.cof (S:ST) (f u:Int):Int×Int:=match get S.N f with
 | some t=>if 1<f∧t.1=u then (t.2.1,t.2.2) else (f,f)
 | none=>(f,f)
theorem cof_low {S:ST} (hw:WF S) {f:Int} (u:Int) (hf:f≤1):S.cof f u=(f,f):=by
 unfold ST.cof
 cases hg:get S.N f with
 | none=>rfl
 | some t=>obtain ⟨a,b,c⟩:=t;have:=hw.node f a b c hg;omega
theorem cof_spec {S:ST} (hw:WF S) {f u:Int} (hf:S.ok f) (u0:0≤u) (u1:u<S.n) (hu:S.pl u≤S.lev f) :
  S.ok (S.cof f u).1∧S.ok (S.cof f u).2∧S.pl u<S.lev (S.cof f u).1∧S.pl u<S.lev (S.cof f u).2∧S.lev f≤S.lev (S.cof f u).1∧S.lev f≤S.lev (S.cof f u).2 ∧
   ∀ σ,S.den f σ=if σ u then S.den (S.cof f u).2 σ else S.den (S.cof f u).1 σ:=by
 have hpu:=hw.pl_range u0 u1
 by_cases hlow:f≤1
 ·rw [cof_low hw u hlow,lev_low hlow]
  exact ⟨hf,hf,hpu.2.1,hpu.2.1,Int.le_refl _,Int.le_refl _,fun σ=>by simp⟩
 ·have hf':=hf
  rcases hf' with rfl | rfl | ⟨h2,⟨v,l,h⟩,ht⟩
  ·omega
  ·omega
  obtain ⟨x1,x2,x3,x4,x5,x6,x7,x8,x9⟩:=hw.node f v l h ht
  have hl:=lev_node hw ht
  dsimp only at hl
  by_cases hv:v=u
  ·subst hv
   have e:S.cof f v=(l,h):=by
    have:1<f:=by omega
    simp [ST.cof,ht,this]
   rw [e,hl]
   exact ⟨x6,x7,x8,x9,by dsimp only;omega,by dsimp only;omega,fun σ=>den_node hw ht σ⟩
  ·have e:S.cof f u=(f,f):=by simp [ST.cof,ht,hv]
   have hne:S.pl u≠S.lev f:=fun e2=>hv (hw.pl_inj x3 x4 u0 u1 (by rw [←hl,e2]))
   rw [e]
   exact ⟨hf,hf,by dsimp only;omega,by dsimp only;omega,Int.le_refl _,Int.le_refl _,fun σ=>by simp⟩
def KOK (S:ST):Prop:=∀ f g h r,get S.K (f,g,h)=some r→S.ok f∧S.ok g∧S.ok h∧S.ok r∧(∀ σ,S.den r σ=if S.den f σ then S.den g σ else S.den h σ) ∧
 ∀ m,m≤S.lev f→m≤S.lev g→m≤S.lev h→m≤S.lev r
theorem KOK.ext {S S':ST} (h:KOK S) (x:Ext S S') (hw:WF S) (hw':WF S') (e:S'.K=S.K):KOK S':=by
 intro f g k r hg
 rw [e] at hg
 obtain ⟨a,b,c,d,den,lv⟩:=h f g k r hg
 refine ⟨x.ok a,x.ok b,x.ok c,x.ok d,fun σ=>?_,fun m=>?_⟩
 ·rw [x.den hw hw' d,x.den hw hw' a,x.den hw hw' b,x.den hw hw' c];exact den σ
 ·rw [x.lev a,x.lev b,x.lev c,x.lev d];exact lv m
def cst:Nat→Int
 | 0=>0
 | k+1=>2 * cst k+1
theorem cst_nonneg:∀ k,0≤cst k
 | 0=>by simp [cst]
 | k+1=>by have:=cst_nonneg k;simp only [cst];omega
theorem cst_mono {j k:Nat} (h:j≤k):cst j≤cst k:=by
 induction h with
 | refl=>exact Int.le_refl _
 | step h ih=>rename_i m;have:=cst_nonneg m;simp only [cst];omega
structure NumPost (S S':ST) (v l h r:Int):Prop where
 ext:Ext S S'
 wf:WF S'
 known:S'.K=S.K
 ok:S'.ok r
 den:∀ σ,S'.den r σ=if σ v then S.den h σ else S.den l σ
 next:S'.next≤S.next+1
 lev:∀ m,m≤S.pl v→m≤S.lev l→m≤S.lev h→m≤S'.lev r
theorem numPost_same {S:ST} (hw:WF S) (v l:Int) (okl:S.ok l):NumPost S S v l l l:=
 ⟨Ext.refl S,hw,rfl,okl,fun σ=>by simp,by omega,fun m _ h _=>h⟩
theorem numPost_found {S:ST} (hw:WF S) {v l h f:Int} (hg:get S.U (v,l,h)=some f):NumPost S S v l h f:=by
 have ht:=(hw.inv _ _).1 hg
 have hn:=hw.node f v l h ht
 exact ⟨Ext.refl S,hw,rfl,.inr (.inr ⟨hn.1,_,ht⟩),fun σ=>den_node hw ht σ,by omega,fun m h1 _ _=>by rw [lev_node hw ht];exact h1⟩
theorem numPost_new {S:ST} (hw:WF S) {v l h:Int} (v0:0≤v) (v1:v<S.n) (hlh:l≠h) (okl:S.ok l) (okh:S.ok h) (pl:S.pl v<S.lev l) (ph:S.pl v<S.lev h) (hnew:get S.U (v,l,h)=none) :
  NumPost S (S.add (v,l,h)) v l h S.next:=by
 obtain ⟨hw',hat⟩:=add_wf hw v0 v1 hlh okl okh pl ph hnew
 have hx:=add_ext hw (v,l,h)
 refine ⟨hx,hw',rfl,.inr (.inr ⟨hw.two,_,hat⟩),fun σ=>?_,Int.le_refl _,fun m h1 _ _=>?_⟩
 ·rw [den_node hw' hat,hx.den hw hw' okl,hx.den hw hw' okh]
 ·rw [lev_node hw' hat,hx.pl];exact h1
structure ItePost (S S':ST) (f g h r:Int) (k:Nat):Prop where
 ext:Ext S S'
 wf:WF S'
 known:KOK S'
 ok:S'.ok r
 den:∀ σ,S'.den r σ=if S.den f σ then S.den g σ else S.den h σ
 next:S'.next≤S.next+cst k
 lev:∀ m,m≤S.lev f→m≤S.lev g→m≤S.lev h→m≤S'.lev r
theorem itePost_stays {S:ST} (hw:WF S) (hk:KOK S) {f g h r:Int} (k:Nat) (okr:S.ok r) (den:∀ σ,S.den r σ=if S.den f σ then S.den g σ else S.den h σ)
  (lev:∀ m,m≤S.lev f→m≤S.lev g→m≤S.lev h→m≤S.lev r):ItePost S S f g h r k:=
 ⟨Ext.refl S,hw,hk,okr,den,by have:=cst_nonneg k;omega,lev⟩
end
section
def ST.withK (S:ST) (K:List (Tri×Int)):ST:={ S with K:=K }
theorem withK_wf {S:ST} (h:WF S) (K:List (Tri×Int)):WF (S.withK K):=⟨h.ord,h.two,h.node,h.inv⟩
theorem withK_ext {S S':ST} (h:Ext S S') (K:List (Tri×Int)):Ext S (S'.withK K):=⟨⟨h.order,h.place,h.next,h.node⟩,h.len⟩
structure Cof (S:ST) (f top f0 f1:Int):Prop where
 ok0:S.ok f0
 ok1:S.ok f1
 lt0:S.pl top<S.lev f0
 lt1:S.pl top<S.lev f1
 le0:S.lev f≤S.lev f0
 le1:S.lev f≤S.lev f1
 den:∀ σ,S.den f σ=if σ top then S.den f1 σ else S.den f0 σ
theorem itePost_step {S S1 S2 S3:ST} (hw:WF S) {f g h top f0 f1 g0 g1 h0 h1 r0 r1 x:Int} {k:Nat} (okf:S.ok f) (okg:S.ok g) (okh:S.ok h)
  (hm:min (min (S.lev f) (S.lev g)) (S.lev h)≤S.pl top) (cf:Cof S f top f0 f1) (cg:Cof S g top g0 g1) (ch:Cof S h top h0 h1)
  (p0:ItePost S S1 f0 g0 h0 r0 k) (p1:ItePost S1 S2 f1 g1 h1 r1 k) (p2:NumPost S2 S3 top r0 r1 x):ItePost S (S3.withK (put S3.K (f,g,h) x)) f g h x (k+1):=by
 have x1:=p0.ext
 have x2:=x1.trans p1.ext
 have x3:=x2.trans p2.ext
 have den:∀ σ,S3.den x σ=if S.den f σ then S.den g σ else S.den h σ:=by
  intro σ
  rw [p2.den,p1.den,p1.ext.den p0.wf p1.wf p0.ok,p0.den,x1.den hw p0.wf cf.ok1,x1.den hw p0.wf cg.ok1,x1.den hw p0.wf ch.ok1,cf.den,cg.den,ch.den]
  cases σ top <;> simp
 have lev:∀ m,m≤S.lev f→m≤S.lev g→m≤S.lev h→m≤S3.lev x:=by
  intro m hf hg hh
  have a0:=p0.lev m (Int.le_trans hf cf.le0) (Int.le_trans hg cg.le0) (Int.le_trans hh ch.le0)
  have a1:=p1.lev m (by rw [x1.lev cf.ok1];exact Int.le_trans hf cf.le1) (by rw [x1.lev cg.ok1];exact Int.le_trans hg cg.le1) (by rw [x1.lev ch.ok1];exact Int.le_trans hh ch.le1)
  refine p2.lev m ?_ (by rw [p1.ext.lev p0.ok];exact a0) a1
  rw [x2.pl]
  omega
 refine ⟨withK_ext x3 _,withK_wf p2.wf _,?_,p2.ok,den,?_,lev⟩
 ·have hk3:KOK S3:=p1.known.ext p2.ext p1.wf p2.wf p2.known
  intro a b c r hg
  show S3.ok a∧S3.ok b∧S3.ok c∧S3.ok r∧(∀ σ,S3.den r σ=if S3.den a σ then S3.den b σ else S3.den c σ)∧∀ m,m≤S3.lev a→m≤S3.lev b→m≤S3.lev c→m≤S3.lev r
  have hg':(if (a,b,c)=(f,g,h) then some x else get S3.K (a,b,c))=some r:=by rw [←get_put];exact hg
  by_cases e:(a,b,c)=(f,g,h)
  ·rw [if_pos e] at hg'
   simp only [Prod.mk.injEq] at e
   obtain ⟨rfl,rfl,rfl⟩:=e
   have e2:=Option.some.inj hg'
   subst e2
   refine ⟨x3.ok okf,x3.ok okg,x3.ok okh,p2.ok,fun σ=>?_,fun m=>?_⟩
   ·rw [den,x3.den hw p2.wf okf,x3.den hw p2.wf okg,x3.den hw p2.wf okh]
   ·rw [x3.lev okf,x3.lev okg,x3.lev okh];exact lev m
  ·rw [if_neg e] at hg'
   exact hk3 a b c r hg'
 ·show S3.next≤S.next+cst (k+1)
  have a:=p0.next
  have b:=p1.next
  have c:=p2.next
  simp only [cst]
  omega
end
section
def bitB (a v:Int):Bool:=decide (a / 2 ^ v.toNat % 2=1)
def ExR (X:Int) (S:ST) (f r:Int):Prop:=S.ok r∧S.lev f≤S.lev r ∧
 ∀ σ,S.den r σ=true↔∃ τ:Int→Bool,(∀ v:Int,0≤v→v<S.n→bitB X v=false→τ v=σ v)∧S.den f τ=true
theorem ExR.mono {X:Int} (S S':ST) (f r:Int) (okf:S.ok f) (x:Ext S S') (hw:WF S) (hw':WF S') (h:ExR X S f r):ExR X S' f r:=by
 obtain ⟨a,b,c⟩:=h
 refine ⟨x.ok a,by rw [x.lev okf,x.lev a];exact b,fun σ=>?_⟩
 rw [x.den hw hw' a,c,x.n]
 constructor
 ·rintro ⟨τ,h1,h2⟩;exact ⟨τ,h1,by rw [x.den hw hw' okf];exact h2⟩
 ·rintro ⟨τ,h1,h2⟩;exact ⟨τ,h1,by rw [x.den hw hw' okf] at h2;exact h2⟩
theorem ExR.const (X:Int) (S:ST) {f:Int} (h:f=0∨f=1):ExR X S f f:=by
 refine ⟨by rcases h with rfl | rfl <;> simp [ST.ok],Int.le_refl _,fun σ=>?_⟩
 rcases h with rfl | rfl
 ·simp [den_zero]
 ·simp only [den_one,true_iff];exact ⟨σ,fun _ _ _ _=>rfl,trivial⟩
theorem upd_same (σ:Int→Bool) (v:Int) (b:Bool):upd σ v b v=b:=by simp [upd]
theorem upd_ne (σ:Int→Bool) {v u:Int} (b:Bool) (h:u≠v):upd σ v b u=σ u:=by simp [upd,h]
theorem ExR.bit {X:Int} {S S':ST} {f v l h rl rh r:Int} (hw:WF S) (hw':WF S') (x:Ext S S') (ht:get S.N f=some (v,l,h)) (hb:bitB X v=true) (al:ExR X S l rl) (ah:ExR X S h rh)
  (ok:S'.ok r) (den:∀ σ,S'.den r σ=(S.den rl σ || S.den rh σ)) (lev:min (S.lev rl) (S.lev rh)≤S'.lev r):ExR X S' f r:=by
 obtain ⟨x1,x2,v0,v1,x5,okl,okh,pll,plh⟩:=hw.node f v l h ht
 have okf:S.ok f:=.inr (.inr ⟨x1,_,ht⟩)
 have hlf:=lev_node hw ht
 dsimp only at hlf
 refine ⟨ok,?_,fun σ=>?_⟩
 ·rw [x.lev okf,hlf];have:=al.2.1;have:=ah.2.1;omega
 ·rw [den,x.n,Bool.or_eq_true,al.2.2,ah.2.2]
  constructor
  ·rintro (⟨τ,h1,h2⟩ | ⟨τ,h1,h2⟩)
   ·refine ⟨upd τ v false,fun u u0 u1 hu=>?_,?_⟩
    ·rw [upd_ne _ _ (fun e=>by subst e;rw [hb] at hu;cases hu)];exact h1 u u0 u1 hu
    ·rw [x.den hw hw' okf,den_node hw ht,upd_same,den_upd_above hw okl v0 v1 pll];exact h2
   ·refine ⟨upd τ v true,fun u u0 u1 hu=>?_,?_⟩
    ·rw [upd_ne _ _ (fun e=>by subst e;rw [hb] at hu;cases hu)];exact h1 u u0 u1 hu
    ·rw [x.den hw hw' okf,den_node hw ht,upd_same,den_upd_above hw okh v0 v1 plh];exact h2
  ·rintro ⟨τ,h1,h2⟩
   rw [x.den hw hw' okf,den_node hw ht] at h2
   cases hv:τ v with
   | true=>rw [hv] at h2;exact .inr ⟨τ,h1,h2⟩
   | false=>rw [hv] at h2;exact .inl ⟨τ,h1,h2⟩
theorem ExR.keep {X:Int} {S S':ST} {f v l h rl rh r:Int} (hw:WF S) (ht:get S.N f=some (v,l,h)) (hb:bitB X v=false) (al:ExR X S l rl) (ah:ExR X S h rh) (p:NumPost S S' v rl rh r):ExR X S' f r:=by
 obtain ⟨x1,x2,v0,v1,x5,okl,okh,pll,plh⟩:=hw.node f v l h ht
 have okf:S.ok f:=.inr (.inr ⟨x1,_,ht⟩)
 have hlf:=lev_node hw ht
 dsimp only at hlf
 refine ⟨p.ok,?_,fun σ=>?_⟩
 ·rw [p.ext.lev okf,hlf]
  exact p.lev _ (Int.le_refl _) (by have:=al.2.1;omega) (by have:=ah.2.1;omega)
 ·rw [p.den,p.ext.n]
  constructor
  ·intro hr
   cases hv:σ v with
   | true=>
    rw [hv] at hr
    obtain ⟨τ,h1,h2⟩:=(ah.2.2 σ).1 hr
    refine ⟨τ,h1,?_⟩
    rw [p.ext.den hw p.wf okf,den_node hw ht,h1 v v0 v1 hb,hv];exact h2
   | false=>
    rw [hv] at hr
    obtain ⟨τ,h1,h2⟩:=(al.2.2 σ).1 hr
    refine ⟨τ,h1,?_⟩
    rw [p.ext.den hw p.wf okf,den_node hw ht,h1 v v0 v1 hb,hv];exact h2
  ·rintro ⟨τ,h1,h2⟩
   rw [p.ext.den hw p.wf okf,den_node hw ht,h1 v v0 v1 hb] at h2
   cases hv:σ v with
   | true=>rw [hv] at h2;exact (ah.2.2 σ).2 ⟨τ,h1,h2⟩
   | false=>rw [hv] at h2;exact (al.2.2 σ).2 ⟨τ,h1,h2⟩
theorem upd_comm (σ:Int→Bool) {u v:Int} (h:u≠v) (a b:Bool):upd (upd σ u a) v b=upd (upd σ v b) u a:=by
 funext x
 unfold upd
 by_cases e1:x=v
 ·by_cases e2:x=u
  ·exact absurd (e2.symm.trans e1) h
  ·subst e1;simp [e2]
 ·simp [e1]
end
section
def Reach (S:ST) (roots:List Int) (f:Int):Prop:=
 ∀ p:Int→Prop,(∀ r∈roots,2≤r→p r)→(∀ g v l h,p g→get S.N g=some (v,l,h)→(2≤l→p l)∧(2≤h→p h))→p f
theorem Reach.root {S:ST} {roots:List Int} {r:Int} (h:r∈roots) (h2:2≤r):Reach S roots r:=fun _ a _=>a r h h2
theorem Reach.low {S:ST} {roots:List Int} {f v l h:Int} (hr:Reach S roots f) (ht:get S.N f=some (v,l,h)) (h2:2≤l):Reach S roots l:=fun p a b=>(b f v l h (hr p a b) ht).1 h2
theorem Reach.high {S:ST} {roots:List Int} {f v l h:Int} (hr:Reach S roots f) (ht:get S.N f=some (v,l,h)) (h2:2≤h):Reach S roots h:=fun p a b=>(b f v l h (hr p a b) ht).2 h2
def RootsOk (S:ST) (roots:List Int):Prop:=∀ r∈roots,S.ok r
theorem nodup_len {α:Type} [DecidableEq α]:∀ (l m:List α),l.Nodup→(∀ x∈l,x∈m)→l.length≤m.length
 | [],_,_,_=>by simp
 | a :: l,m,h,hm=>by
  simp only [List.nodup_cons] at h
  have ha:a∈m:=hm a (by simp)
  have hpos:0<m.length:=List.length_pos_of_mem ha
  have:=nodup_len l (m.erase a) h.2 (fun x hx=>(List.mem_erase_of_ne (fun (e:x=a)=>h.1 (e ▸ hx))).2 (hm x (List.mem_cons_of_mem _ hx)))
  rw [List.length_erase_of_mem ha] at this
  simp only [List.length_cons]
  omega
def tree (N:List (Int×Tri)):Nat→Int→List Int
 | 0,_=>[]
 | k+1,f=>if f≤1 then [] else match get N f with
  | none=>[]
  | some t=>f :: (tree N k t.2.1++tree N k t.2.2)
theorem tree_length (N:List (Int×Tri)):∀ k f,((tree N k f).length:Int)≤cst k
 | 0,f=>by simp [tree,cst]
 | k+1,f=>by
  have hc:=cst_nonneg k
  unfold tree
  split
  ·simp only [List.length_nil,cst];omega
  ·split
   ·simp only [List.length_nil,cst];omega
   ·rename_i t _
    have:=tree_length N k t.2.1
    have:=tree_length N k t.2.2
    simp only [List.length_cons,List.length_append,cst]
    omega
theorem tree_closed {S:ST} (hw:WF S):∀ (k:Nat) (f:Int),S.ok f→(S.n:Int) - S.lev f≤k→∀ g v l h,g∈tree S.N k f→get S.N g=some (v,l,h)→(2≤l→l∈tree S.N k f)∧(2≤h→h∈tree S.N k f)
 | 0,_,_,_,_,_,_,_,hg,_=>by simp [tree] at hg
 | k+1,f,okf,hk,g,v,l,h,hg,ht=>by
  have head:∀ (k:Nat) (c:Int),S.ok c→2≤c→(S.n:Int) - S.lev c≤k→c∈tree S.N k c:=by
   intro k c okc c2 hk
   have hlt:=(lev_lt_iff hw okc).2 c2
   cases k with
   | zero=>omega
   | succ k=>
    rcases okc with rfl | rfl | ⟨_,t,hc⟩
    ·omega
    ·omega
    ·have:¬ c≤1:=by omega
     simp [tree,this,hc]
  unfold tree at hg ⊢
  by_cases f1:f≤1
  ·simp [f1] at hg
  ·simp only [f1,if_false] at hg ⊢
   rcases okf with rfl | rfl | ⟨f2,⟨a,b,c⟩,hf⟩
   ·omega
   ·omega
   rw [hf] at hg ⊢
   obtain ⟨x1,x2,x3,x4,x5,okb,okc,pb,pc⟩:=hw.node f a b c hf
   rw [lev_node hw hf] at hk
   dsimp only at hk hg ⊢
   rcases List.mem_cons.1 hg with e | hg
   ·subst e
    rw [hf] at ht
    simp only [Option.some.injEq,Prod.mk.injEq] at ht
    obtain ⟨rfl,rfl,rfl⟩:=ht
    exact ⟨fun h2=>List.mem_cons_of_mem _ (List.mem_append.2 (.inl (head k _ okb h2 (by omega)))),fun h2=>List.mem_cons_of_mem _ (List.mem_append.2 (.inr (head k _ okc h2 (by omega))))⟩
   ·rcases List.mem_append.1 hg with hg | hg
    ·obtain ⟨i1,i2⟩:=tree_closed hw k b okb (by omega) g v l h hg ht
     exact ⟨fun h2=>List.mem_cons_of_mem _ (List.mem_append.2 (.inl (i1 h2))),fun h2=>List.mem_cons_of_mem _ (List.mem_append.2 (.inl (i2 h2)))⟩
    ·obtain ⟨i1,i2⟩:=tree_closed hw k c okc (by omega) g v l h hg ht
     exact ⟨fun h2=>List.mem_cons_of_mem _ (List.mem_append.2 (.inr (i1 h2))),fun h2=>List.mem_cons_of_mem _ (List.mem_append.2 (.inr (i2 h2)))⟩
theorem tree_root {S:ST} (hw:WF S) {f:Int} (okf:S.ok f) (f2:2≤f):f∈tree S.N S.n f:=by
 have hlt:=(lev_lt_iff hw okf).2 f2
 have h0:=lev_range hw okf
 obtain ⟨k,hk⟩:∃ k,S.n=k+1:=⟨S.n - 1,by omega⟩
 rw [hk]
 rcases okf with rfl | rfl | ⟨_,t,hc⟩
 ·omega
 ·omega
 ·have:¬ f≤1:=by omega
  simp [tree,this,hc]
theorem reach_tree {S:ST} (hw:WF S) {roots:List Int} (hr:RootsOk S roots) {f:Int} (h:Reach S roots f):f∈roots.flatMap (tree S.N S.n):=by
 refine h (fun f=>f∈roots.flatMap (tree S.N S.n)) (fun r hm h2=>List.mem_flatMap.2 ⟨r,hm,tree_root hw (hr r hm) h2⟩) ?_
 intro g v l h' hg ht
 obtain ⟨r,hm,hg⟩:=List.mem_flatMap.1 hg
 have h0:=lev_range hw (hr r hm)
 obtain ⟨i1,i2⟩:=tree_closed hw S.n r (hr r hm) (by omega) g v l h' hg ht
 exact ⟨fun h2=>List.mem_flatMap.2 ⟨r,hm,i1 h2⟩,fun h2=>List.mem_flatMap.2 ⟨r,hm,i2 h2⟩⟩
theorem flatMap_length (N:List (Int×Tri)) (k:Nat):∀ roots:List Int,((roots.flatMap (tree N k)).length:Int)≤roots.length * cst k
 | []=>by simp
 | r :: roots=>by
  have:=tree_length N k r
  have:=flatMap_length N k roots
  simp only [List.flatMap_cons,List.length_append,List.length_cons]
  have e:((roots.length+1:Nat):Int) * cst k=roots.length * cst k+cst k:=by
   rw [Int.natCast_add,Int.add_mul];simp
  rw [e]
  omega
structure GoodNodes (S:ST) (roots:List Int) (xs:List (Int×Tri)):Prop where
 nodup:(xs.map Prod.fst).Nodup
 at_:∀ x∈xs,get S.N x.1=some x.2
 iff:∀ f,f∈xs.map Prod.fst↔Reach S roots f
structure Swept (S S':ST) (roots:List Int):Prop where
 order:S'.order=S.order
 place:S'.place=S.place
 next:S'.next=S.next
 known:S'.K=[]
 node:∀ f t,get S'.N f=some t↔get S.N f=some t∧Reach S roots f
 number:∀ t f,get S'.U t=some f↔get S.U t=some f∧Reach S roots f
theorem Swept.sub {S S':ST} {roots:List Int} (h:Swept S S' roots):Sub S' S:=⟨h.order.symm,h.place.symm,Int.le_of_eq h.next,fun f t ht=>((h.node f t).1 ht).1⟩
theorem Swept.ok_root {S S':ST} {roots:List Int} (h:Swept S S' roots) (hr:RootsOk S roots) {r:Int} (hm:r∈roots):S'.ok r:=by
 rcases hr r hm with e | e | ⟨h2,t,ht⟩
 ·exact .inl e
 ·exact .inr (.inl e)
 ·exact .inr (.inr ⟨h2,t,(h.node r t).2 ⟨ht,Reach.root hm h2⟩⟩)
theorem Swept.wf {S S':ST} {roots:List Int} (hw:WF S) (h:Swept S S' roots):WF S':=by
 have hsub:=h.sub
 have okc:∀ c,S.ok c→(2≤c→Reach S roots c)→S'.ok c:=by
  intro c hc hr
  rcases hc with e | e | ⟨h2,t,ht⟩
  ·exact .inl e
  ·exact .inr (.inl e)
  ·exact .inr (.inr ⟨h2,t,(h.node c t).2 ⟨ht,hr h2⟩⟩)
 refine ⟨by rw [h.order,h.place];exact hw.ord,by rw [h.next];exact hw.two,?_,?_⟩
 ·intro f v l hh ht
  obtain ⟨ht',hr⟩:=(h.node _ _).1 ht
  obtain ⟨x1,x2,x3,x4,x5,okl,okh,pl,ph⟩:=hw.node f v l hh ht'
  have ol:=okc l okl (fun h2=>hr.low ht' h2)
  have oh:=okc hh okh (fun h2=>hr.high ht' h2)
  refine ⟨x1,by rw [h.next];exact x2,x3,by rw [←hsub.n];exact x4,x5,ol,oh,?_,?_⟩
  ·rw [←hsub.pl,←hsub.lev ol];exact pl
  ·rw [←hsub.pl,←hsub.lev oh];exact ph
 ·intro t f
  rw [h.number,h.node,hw.inv]
theorem Swept.den {S S':ST} {roots:List Int} (hw:WF S) (h:Swept S S' roots) {f:Int} (hf:S'.ok f) (σ:Int→Bool):S'.den f σ=S.den f σ:=(h.sub.den (h.wf hw) hw hf σ).symm
theorem Swept.kok {S S':ST} {roots:List Int} (h:Swept S S' roots):KOK S':=by
 intro f g k r hg
 rw [h.known] at hg
 cases hg
end
section
structure NInv (S:ST) (roots ws:List Int) (xs:List (Int×Tri)):Prop where
 nodup:(xs.map Prod.fst).Nodup
 at_:∀ x∈xs,get S.N x.1=some x.2
 reach:∀ x∈xs,Reach S roots x.1
 wok:∀ f∈ws,S.ok f∧(2≤f→Reach S roots f)
 roots:∀ r∈roots,2≤r→r∈xs.map Prod.fst∨r∈ws
 closed:∀ x∈xs,∀ c,c=x.2.2.1∨c=x.2.2.2→2≤c→c∈xs.map Prod.fst∨c∈ws
theorem NInv.start {S:ST} {roots:List Int} (hr:RootsOk S roots):NInv S roots roots []:=
 ⟨by simp,by simp,by simp,fun f hf=>⟨hr f hf,fun h2=>Reach.root hf h2⟩,fun r hr _=>.inr hr,by simp⟩
theorem NInv.skip {S:ST} {roots ws:List Int} {f:Int} {xs:List (Int×Tri)} (h:NInv S roots (ws++[f]) xs) (hf:f∈xs.map Prod.fst∨f≤1):NInv S roots ws xs:=by
 have key:∀ c,2≤c→(c∈xs.map Prod.fst∨c∈ws++[f])→c∈xs.map Prod.fst∨c∈ws:=by
  intro c h2 hc
  rcases hc with hc | hc
  ·exact .inl hc
  ·rcases List.mem_append.1 hc with hc | hc
   ·exact .inr hc
   ·simp only [List.mem_singleton] at hc
    subst hc
    rcases hf with hf | hf
    ·exact .inl hf
    ·omega
 exact ⟨h.nodup,h.at_,h.reach,fun g hg=>h.wok g (List.mem_append.2 (.inl hg)),fun r hr h2=>key r h2 (h.roots r hr h2),fun x hx c hc h2=>key c h2 (h.closed x hx c hc h2)⟩
theorem NInv.take {S:ST} (hw:WF S) {roots ws:List Int} {f:Int} {t:Tri} {xs:List (Int×Tri)} (h:NInv S roots (ws++[f]) xs) (hf:f∉xs.map Prod.fst) (f2:2≤f) (ht:get S.N f=some t) :
  NInv S roots (ws++[t.2.2,t.2.1]) (xs++[(f,t)]):=by
 obtain ⟨v,l,r⟩:=t
 have hrf:=(h.wok f (by simp)).2 f2
 have hn:=hw.node f v l r ht
 have key:∀ c,(c∈xs.map Prod.fst∨c∈ws++[f])→c∈(xs++[(f,(v,l,r))]).map Prod.fst∨c∈ws++[r,l]:=by
  intro c hc
  rcases hc with hc | hc
  ·exact .inl (by simp only [List.map_append,List.mem_append];exact .inl hc)
  ·rcases List.mem_append.1 hc with hc | hc
   ·exact .inr (List.mem_append.2 (.inl hc))
   ·simp only [List.mem_singleton] at hc
    subst hc
    exact .inl (by simp)
 refine ⟨?_,?_,?_,?_,fun q hq h2=>key q (h.roots q hq h2),?_⟩
 ·rw [List.map_append,List.nodup_append]
  refine ⟨h.nodup,by simp,fun a ha b hb=>?_⟩
  simp only [List.map_cons,List.map_nil,List.mem_singleton] at hb
  exact fun e=>hf (by rw [←hb,←e];exact ha)
 ·intro x hx
  rcases List.mem_append.1 hx with hx | hx
  ·exact h.at_ x hx
  ·simp only [List.mem_singleton] at hx;subst hx;exact ht
 ·intro x hx
  rcases List.mem_append.1 hx with hx | hx
  ·exact h.reach x hx
  ·simp only [List.mem_singleton] at hx;subst hx;exact hrf
 ·intro g hg
  rcases List.mem_append.1 hg with hg | hg
  ·exact h.wok g (List.mem_append.2 (.inl hg))
  ·simp only [List.mem_cons,List.not_mem_nil,or_false] at hg
   rcases hg with rfl | rfl
   ·exact ⟨hn.2.2.2.2.2.2.1,fun h2=>hrf.high ht h2⟩
   ·exact ⟨hn.2.2.2.2.2.1,fun h2=>hrf.low ht h2⟩
 ·intro x hx c hc h2
  rcases List.mem_append.1 hx with hx | hx
  ·exact key c (h.closed x hx c hc h2)
  ·simp only [List.mem_singleton] at hx
   subst hx
   refine .inr (List.mem_append.2 (.inr ?_))
   rcases hc with rfl | rfl <;> simp
theorem NInv.done {S:ST} {roots:List Int} {xs:List (Int×Tri)} (h:NInv S roots [] xs):GoodNodes S roots xs:=by
 refine ⟨h.nodup,h.at_,fun f=>⟨fun hf=>?_,fun hr=>?_⟩⟩
 ·obtain ⟨x,hx,rfl⟩:=List.mem_map.1 hf
  exact h.reach x hx
 ·refine hr (fun f=>f∈xs.map Prod.fst) (fun r hm h2=>by simpa using h.roots r hm h2) ?_
  intro g v l hh hg ht
  obtain ⟨x,hx,rfl⟩:=List.mem_map.1 hg
  have e:=h.at_ x hx
  rw [ht] at e
  have e:=Option.some.inj e
  constructor
  ·intro h2;simpa using h.closed x hx l (.inl (by rw [←e])) h2
  ·intro h2;simpa using h.closed x hx hh (.inr (by rw [←e])) h2
theorem NInv.length {S:ST} {roots ws:List Int} {xs:List (Int×Tri)} (h:NInv S roots ws xs):xs.length≤S.N.length:=by
 have:=nodup_len (xs.map Prod.fst) (S.N.map Prod.fst) h.nodup (fun f hf=>by
  obtain ⟨x,hx,rfl⟩:=List.mem_map.1 hf
  exact List.mem_map.2 ⟨_,get_some_mem (h.at_ x hx),rfl⟩)
 simpa using this
end
section
section
variable {S C:ST} {u d:Int} {m:Nat} {T:List Int} {hole:Option Tri}
end
end
section
section
variable {S C:ST} {u d:Int} {m:Nat}
end
end
section
section
variable {S S':ST}
theorem hangs (hw:WF S) {f v l h:Int} (ht:get S.N f=some (v,l,h)):¬ ∀ σ,S.den f (upd σ v true)=S.den f (upd σ v false):=by
 intro hc
 obtain ⟨_,_,v0,v1,lh,okl,okh,pl,ph⟩:=hw.node f v l h ht
 refine lh (den_inj hw okl okh fun σ=>?_)
 have:=hc σ
 rw [den_node hw ht,den_node hw ht] at this
 simp only [upd,if_true] at this
 have e1:=den_upd_above hw okh v0 v1 ph σ true
 have e2:=den_upd_above hw okl v0 v1 pl σ false
 simp only [Bool.false_eq_true,if_false] at this
 rw [e1,e2] at this
 exact this.symm
end
end
end Go.Proofs.YtgjomknpjigkhaaGreatDoor
