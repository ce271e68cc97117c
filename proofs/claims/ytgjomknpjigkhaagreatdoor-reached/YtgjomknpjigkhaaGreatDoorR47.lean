import Derived.Test.YtgjomknpjigkhaaGreatDoorR46
namespace Go.Proofs.YtgjomknpjigkhaaGreatDoor
section
open Go.RowKit
theorem toksP_app:∀ (p q:List Pc) (l:Nat),toksP (p ++ q) l = toksP p l ++ toksP q (lineP p l)
 | [],_,_=>rfl
 | .t g :: p,q,l=>by simp only [List.cons_append,toksP,lineP];rw [toksP_app p q l]
 | .sp :: p,q,l=>toksP_app p q l
 | .nl :: p,q,l=>toksP_app p q (l + 1)
theorem lineP_app:∀ (p q:List Pc) (l:Nat),lineP (p ++ q) l = lineP q (lineP p l)
 | [],_,_=>rfl
 | .t _ :: p,q,l=>lineP_app p q l
 | .sp :: p,q,l=>lineP_app p q l
 | .nl :: p,q,l=>lineP_app p q (l + 1)
def isSepP:Pc→Bool
 | .t _=>false
 | _=>true
theorem okP_app:∀ (p q:List Pc),okP p = true→(p.getLast?.map isSepP).getD true = true→okP q = true→okP (p ++ q) = true
 | [],_,_,_,h=>h
 | .sp :: p,q,h1,h2,h3=>okP_app p q h1 (by cases p with | nil=>rfl | cons x p=>simpa using h2) h3
 | .nl :: p,q,h1,h2,h3=>okP_app p q h1 (by cases p with | nil=>rfl | cons x p=>simpa using h2) h3
 | [.t g],q,h1,h2,h3=>by simp [isSepP] at h2
 | .t g :: x :: p,q,h1,h2,h3=>by
  simp only [okP,Bool.and_eq_true,List.cons_append] at h1 ⊢
  refine ⟨⟨h1.1.1,?_⟩,okP_app (x :: p) q h1.2 (by simpa using h2) h3⟩
  have hx:∀ r,ltr (ba (bytesP (x :: r))) 0 = ltr (ba (pcB x)) 0:=fun r=>by
   have hz:(pcB x).length ≠ 0:=by
    cases x with
    | sp=>simp [pcB]
    | nl=>simp [pcB]
    | t y=>
     have:=h1.2
     simp only [okP,Bool.and_eq_true] at this
     exact (tok_first this.1.1 []).1
   rw [bytesP_cons,ba_ltr,ba_ltr,List.getElem?_append_left (by omega)]
  have h4:=h1.1.2
  simp only [List.isEmpty_cons,Bool.false_or] at h4 ⊢
  rw [hx] at h4 ⊢
  exact h4
def ItemsTo (ts:List Tn) (is:List ItemI) (us:List Tn):Prop:=∀ k,itemsG (k + is.length) ts = match itemsG k us with
 | .error l=>.error l
 | .ok r=>.ok (is ++ r)
theorem ItemsTo.one {ts us:List Tn} {i:ItemI} (h:itemG ts = .ok (i,us)) (hf:sees isFinG ts = false):ItemsTo ts [i] us:=fun k=>by
 show itemsG (k + 1) ts = _
 rw [itemsG,hf,if_neg (by decide),h]
 dsimp only
 cases itemsG k us <;> rfl
theorem ItemsTo.nil (ts:List Tn):ItemsTo ts [] ts:=fun k=>by
 show itemsG k ts = _
 cases itemsG k ts <;> rfl
theorem ItemsTo.trans {ts us vs:List Tn} {is js:List ItemI} (h:ItemsTo ts is us) (h2:ItemsTo us js vs):ItemsTo ts (is ++ js) vs:=fun k=>by
 have e:k + (is ++ js).length = (k + js.length) + is.length:=by simp;omega
 rw [e,h (k + js.length),h2 k]
 cases itemsG k vs with
 | error l=>rfl
 | ok r=>simp
theorem senseS_app:∀ (m:Mean) (is js:List ItemI),senseS m (is ++ js) = match senseS m is with
  | .error f=>.error f
  | .ok m'=>senseS m' js
 | m,[],js=>rfl
 | m,i :: is,js=>by
  simp only [List.cons_append,senseS]
  cases addItem m i with
  | error f=>rfl
  | ok m'=>exact senseS_app m' is js
def nmP (l:List UInt8):Pc:=.t (.name (ba l))
def dgB (k:Nat):ByteArray:=ba [UInt8.ofNat (48 + k)]
def inP (k:Nat):Pc:=.t (.int (dgB k))
def vrP (c:UInt8):Pc:=.t (.var (ba [c]))
theorem numOf_dg {k:Nat} (h:k < 10):numOf (.int (dgB k)) = (k:Int):=by
 have:k = 0∨k = 1∨k = 2∨k = 3∨k = 4∨k = 5∨k = 6∨k = 7∨k = 8∨k = 9:=by omega
 rcases this with rfl | rfl | rfl | rfl | rfl | rfl | rfl | rfl | rfl | rfl <;> rfl
theorem tokOk_dg {k:Nat} (h:k < 10):tokOk (.int (dgB k)) = true:=by
 have:k = 0∨k = 1∨k = 2∨k = 3∨k = 4∨k = 5∨k = 6∨k = 7∨k = 8∨k = 9:=by omega
 rcases this with rfl | rfl | rfl | rfl | rfl | rfl | rfl | rfl | rfl | rfl <;> rfl
def domP (k:Nat):List Pc:=[.t .dom,.sp,nmP [100],.sp,inP k,.t .semi,.sp]
def relP1 (n:List UInt8) (s:Pc):List Pc:=[.t .rel,.sp,nmP n,.t .lp,nmP [100],.t .rp,.t .semi,s]
def relP2 (n:List UInt8) (s:Pc):List Pc:=[.t .rel,.sp,nmP n,.t .lp,nmP [100],.t .comma,.sp,nmP [100],.t .rp,.t .semi,s]
def atP1 (n:List UInt8) (a:Pc):List Pc:=[nmP n,.t .lp,a,.t .rp]
def atP2 (n:List UInt8) (a b:Pc):List Pc:=[nmP n,.t .lp,a,.t .comma,.sp,b,.t .rp]
def wayP1 (s:Pc):List Pc:=atP2 [112] (vrP 88) (vrP 89) ++ [.sp,.t .arrow,.sp] ++ atP2 [101] (vrP 88) (vrP 89) ++ [.t .dot,s]
def wayP2 (s:Pc):List Pc:=atP2 [112] (vrP 88) (vrP 90) ++ [.sp,.t .arrow,.sp] ++ atP2 [112] (vrP 88) (vrP 89) ++ [.t .comma,.sp] ++ atP2 [101] (vrP 89) (vrP 90) ++ [.t .dot,s]
def noP (s:Pc):List Pc:=atP2 [110,111] (vrP 88) (vrP 89) ++ [.sp,.t .arrow,.sp] ++ atP1 [110] (vrP 88) ++ [.t .comma,.sp] ++ atP1 [110] (vrP 89) ++ [.t .comma,.sp,.t .bang] ++ atP2 [112] (vrP 88) (vrP 89) ++ [.t .dot,s]
def nP (i:Nat):List Pc:=atP1 [110] (inP i) ++ [.t .dot,.sp]
def ePz (e:Nat × Nat):List Pc:=atP2 [101] (inP e.1) (inP e.2) ++ [.t .dot,.sp]
def headZ (k:Nat):List Pc:=domP k ++ relP2 [101] .sp ++ relP1 [110] .sp ++ relP2 [112] .sp ++ relP2 [110,111] .nl ++ wayP1 .sp ++ wayP2 .sp ++ noP .nl
def reachP (k:Nat) (es:List (Nat × Nat)):List Pc:=headZ k ++ (List.range k).flatMap nP ++ es.flatMap ePz
set_option maxRecDepth 100000 in
theorem headZ_ok {k:Nat} (h:k < 10):okP (headZ k) = true:=by
 have:k = 0∨k = 1∨k = 2∨k = 3∨k = 4∨k = 5∨k = 6∨k = 7∨k = 8∨k = 9:=by omega
 rcases this with rfl | rfl | rfl | rfl | rfl | rfl | rfl | rfl | rfl | rfl <;> rfl
theorem nP_ok {i:Nat} (h:i < 10):okP (nP i) = true:=by
 have:i = 0∨i = 1∨i = 2∨i = 3∨i = 4∨i = 5∨i = 6∨i = 7∨i = 8∨i = 9:=by omega
 rcases this with rfl | rfl | rfl | rfl | rfl | rfl | rfl | rfl | rfl | rfl <;> rfl
theorem ePz_ok {e:Nat × Nat} (h1:e.1 < 10) (h2:e.2 < 10):okP (ePz e) = true:=by
 obtain ⟨a,b⟩:=e
 have ha:tokOk (.int (dgB a)) = true:=tokOk_dg h1
 have hb:tokOk (.int (dgB b)) = true:=tokOk_dg h2
 have l1:ltr (ba (bytesP [.t .comma,.sp,inP b,.t .rp,.t .dot,.sp])) 0 = 44:=ba_ltr0 44 _
 have l2:ltr (ba (bytesP [.t .rp,.t .dot,.sp])) 0 = 41:=ba_ltr0 41 _
 have e1:sepOk (.int (dgB a)) 44 = true:=rfl
 have e2:sepOk (.int (dgB b)) 41 = true:=rfl
 have r:okP [.t .rp,.t .dot,.sp] = true:=rfl
 have s1:okP (inP b :: [.t .rp,.t .dot,.sp]) = true:=by
  show (tokOk (.int (dgB b)) && (false || sepOk (.int (dgB b)) (ltr (ba (bytesP [.t .rp,.t .dot,.sp])) 0)) && okP [.t .rp,.t .dot,.sp]) = true
  rw [hb,l2,e2,r];rfl
 have s2:okP (inP a :: [.t .comma,.sp,inP b,.t .rp,.t .dot,.sp]) = true:=by
  show (tokOk (.int (dgB a)) && (false || sepOk (.int (dgB a)) (ltr (ba (bytesP [.t .comma,.sp,inP b,.t .rp,.t .dot,.sp])) 0)) && okP (inP b :: [.t .rp,.t .dot,.sp])) = true
  rw [ha,l1,e1,s1];rfl
 show (tokOk (.name (ba [101])) && (false || sepOk (.name (ba [101])) (ltr (ba (bytesP (.t .lp :: inP a :: [.t .comma,.sp,inP b,.t .rp,.t .dot,.sp]))) 0)) && okP (inP a :: [.t .comma,.sp,inP b,.t .rp,.t .dot,.sp])) = true
 rw [s2,show ltr (ba (bytesP (.t .lp :: inP a :: [.t .comma,.sp,inP b,.t .rp,.t .dot,.sp]))) 0 = 40 from ba_ltr0 40 _]
 rfl
theorem ends_flat {α:Type} {f:α→List Pc} (h:∀ a,((f a).getLast?.map isSepP).getD true = true):∀ l:List α,((l.flatMap f).getLast?.map isSepP).getD true = true
 | []=>rfl
 | a :: l=>by
  rw [List.flatMap_cons,List.getLast?_append]
  cases hl:(l.flatMap f).getLast? with
  | none=>simpa [hl] using h a
  | some x=>have:=ends_flat h l;rw [hl] at this;simpa using this
theorem okP_flat {α:Type} {f:α→List Pc} (h:∀ a,((f a).getLast?.map isSepP).getD true = true):∀ l:List α,(∀ a ∈ l,okP (f a) = true)→okP (l.flatMap f) = true
 | [],_=>rfl
 | a :: l,hl=>by
  rw [List.flatMap_cons]
  exact okP_app _ _ (hl a (by simp)) (h a) (okP_flat h l (fun b hb=>hl b (by simp [hb])))
theorem reachP_ok {k:Nat} (hk:k < 10) {es:List (Nat × Nat)} (he:∀ e ∈ es,e.1 < 10∧e.2 < 10):okP (reachP k es) = true:=by
 unfold reachP
 refine okP_app _ _ (okP_app _ _ (headZ_ok hk) rfl (okP_flat (fun _=>rfl) _ (fun a ha=>nP_ok (by simp at ha;omega)))) ?_ (okP_flat (fun _=>rfl) _ (fun e h=>ePz_ok (he e h).1 (he e h).2))
 have:=ends_flat (f:=nP) (fun _=>rfl) (List.range k)
 rw [List.getLast?_append]
 cases hl:((List.range k).flatMap nP).getLast? with
 | none=>rfl
 | some x=>rw [hl] at this;simpa using this
def dT (l:Nat):Tn:=⟨.name (ba [100]),l⟩
def atI1 (n:List UInt8) (a:Sg) (l:Nat):AtomI:=⟨⟨.name (ba n),l⟩,[⟨a,l⟩]⟩
def atI2 (n:List UInt8) (a b:Sg) (l:Nat):AtomI:=⟨⟨.name (ba n),l⟩,[⟨a,l⟩,⟨b,l⟩]⟩
def vS (c:UInt8):Sg:=.var (ba [c])
def headI (k:Nat):List ItemI:=[.dom (dT 1) ⟨.int (dgB k),1⟩,.rel ⟨.name (ba [101]),1⟩ [dT 1,dT 1],.rel ⟨.name (ba [110]),1⟩ [dT 1],.rel ⟨.name (ba [112]),1⟩ [dT 1,dT 1],.rel ⟨.name (ba [110,111]),1⟩ [dT 1,dT 1],
 .clause (atI2 [112] (vS 88) (vS 89) 2) [⟨atI2 [101] (vS 88) (vS 89) 2,false⟩],
 .clause (atI2 [112] (vS 88) (vS 90) 2) [⟨atI2 [112] (vS 88) (vS 89) 2,false⟩,⟨atI2 [101] (vS 89) (vS 90) 2,false⟩],
 .clause (atI2 [110,111] (vS 88) (vS 89) 2) [⟨atI1 [110] (vS 88) 2,false⟩,⟨atI1 [110] (vS 89) 2,false⟩,⟨atI2 [112] (vS 88) (vS 89) 2,true⟩]]
def nI (l:Nat) (i:Nat):ItemI:=.clause (atI1 [110] (.int (dgB i)) l) []
def eI2 (l:Nat) (e:Nat × Nat):ItemI:=.clause (atI2 [101] (.int (dgB e.1)) (.int (dgB e.2)) l) []
theorem headZ_items (k:Nat) (us:List Tn):ItemsTo (toksP (headZ k) 1 ++ us) (headI k) us:=by
 refine ItemsTo.trans (is:=[_]) (ItemsTo.one (us:=toksP (relP2 [101] .sp ++ relP1 [110] .sp ++ relP2 [112] .sp ++ relP2 [110,111] .nl ++ wayP1 .sp ++ wayP2 .sp ++ noP .nl) 1 ++ us) rfl rfl) ?_
 refine ItemsTo.trans (is:=[_]) (ItemsTo.one (us:=toksP (relP1 [110] .sp ++ relP2 [112] .sp ++ relP2 [110,111] .nl ++ wayP1 .sp ++ wayP2 .sp ++ noP .nl) 1 ++ us) rfl rfl) ?_
 refine ItemsTo.trans (is:=[_]) (ItemsTo.one (us:=toksP (relP2 [112] .sp ++ relP2 [110,111] .nl ++ wayP1 .sp ++ wayP2 .sp ++ noP .nl) 1 ++ us) rfl rfl) ?_
 refine ItemsTo.trans (is:=[_]) (ItemsTo.one (us:=toksP (relP2 [110,111] .nl ++ wayP1 .sp ++ wayP2 .sp ++ noP .nl) 1 ++ us) rfl rfl) ?_
 refine ItemsTo.trans (is:=[_]) (ItemsTo.one (us:=toksP (wayP1 .sp ++ wayP2 .sp ++ noP .nl) 2 ++ us) rfl rfl) ?_
 refine ItemsTo.trans (is:=[_]) (ItemsTo.one (us:=toksP (wayP2 .sp ++ noP .nl) 2 ++ us) rfl rfl) ?_
 refine ItemsTo.trans (is:=[_]) (ItemsTo.one (us:=toksP (noP .nl) 2 ++ us) rfl rfl) ?_
 exact ItemsTo.one rfl rfl
theorem nP_line (i l:Nat):lineP (nP i) l = l:=rfl
theorem ePz_line (e:Nat × Nat) (l:Nat):lineP (ePz e) l = l:=rfl
theorem flat_line {α:Type} {f:α→List Pc} (hf:∀ a l,lineP (f a) l = l):∀ (xs:List α) (l:Nat),lineP (xs.flatMap f) l = l
 | [],_=>rfl
 | a :: xs,l=>by rw [List.flatMap_cons,lineP_app,hf,flat_line hf xs l]
theorem flat_items {α:Type} {f:α→List Pc} {g:Nat→α→ItemI} (hf:∀ a l,lineP (f a) l = l) (hg:∀ a l us,ItemsTo (toksP (f a) l ++ us) [g l a] us):∀ (xs:List α) (l:Nat) (us:List Tn),ItemsTo (toksP (xs.flatMap f) l ++ us) (xs.map (g l)) us
 | [],_,us=>ItemsTo.nil us
 | a :: xs,l,us=>by
  rw [List.flatMap_cons,toksP_app,hf,List.append_assoc]
  exact (hg a l _).trans (is:=[_]) (flat_items hf hg xs l us)
theorem nP_items (i l:Nat) (us:List Tn):ItemsTo (toksP (nP i) l ++ us) [nI l i] us:=ItemsTo.one rfl rfl
theorem ePz_items (e:Nat × Nat) (l:Nat) (us:List Tn):ItemsTo (toksP (ePz e) l ++ us) [eI2 l e] us:=ItemsTo.one rfl rfl
theorem headZ_line (k l:Nat):lineP (headZ k) l = l + 2:=rfl
theorem reachP_items (k:Nat) (es:List (Nat × Nat)) (us:List Tn):ItemsTo (toksP (reachP k es) 1 ++ us) (headI k ++ (List.range k).map (nI 3) ++ es.map (eI2 3)) us:=by
 unfold reachP
 rw [toksP_app,toksP_app,lineP_app,headZ_line,flat_line nP_line,List.append_assoc,List.append_assoc]
 exact ((headZ_items k _).trans (flat_items nP_line nP_items (List.range k) 3 _)).trans (flat_items ePz_line ePz_items es 3 us)
end
section
open Go.RowKit
def cT (k:Nat):TermM:=⟨false,(k:Int)⟩
def noC (l:Nat):ClauseM:=⟨⟨3,[vT 0,vT 1]⟩,[(⟨1,[vT 0]⟩,false),(⟨1,[vT 1]⟩,false),(⟨2,[vT 0,vT 1]⟩,true)],l⟩
def nC (i:Nat):ClauseM:=⟨⟨1,[cT i]⟩,[],3⟩
def eC (e:Nat × Nat):ClauseM:=⟨⟨0,[cT e.1,cT e.2]⟩,[],3⟩
def reachRel:List (ByteArray × List Nat):=[(ba [101],[0,0]),(ba [110],[0]),(ba [112],[0,0]),(ba [110,111],[0,0])]
def reachM (k:Nat) (cs:List ClauseM):Mean:=⟨[(ba [100],(k:Int))],reachRel,cs⟩
def waysC:List ClauseM:=[way1 0 2 2,way2 0 2 2,noC 2]
theorem head_sense {k:Nat} (h1:1≤k) (h8:k≤8):senseS emptyM (headI k) = .ok (reachM k waysC):=by
 have:k = 1∨k = 2∨k = 3∨k = 4∨k = 5∨k = 6∨k = 7∨k = 8:=by omega
 rcases this with rfl | rfl | rfl | rfl | rfl | rfl | rfl | rfl <;> rfl
theorem n_sense {k:Nat} {cs:List ClauseM} {i:Nat} (hi:i < k) (h8:k≤8) (hc:cs.length < 52):addItem (reachM k cs) (nI 3 i) = .ok (reachM k (cs ++ [nC i])):=by
 have h0:(reachM k cs).rel (ba [110]) = some 1:=rfl
 have hn:=numOf_dg (k:=i) (by omega)
 show addClause (reachM k cs) (atI1 [110] (.int (dgB i)) 3) [] = _
 unfold addClause
 rw [if_neg (show ¬ (reachM k cs).clauses.length = 52 by show ¬ cs.length = 52;omega)]
 have t1:termS (reachM k cs) [] ⟨.int (dgB i),3⟩ 0 = .ok (cT i,[]):=by
  show (if ((k:Int))≤numOf (.int (dgB i)) then (Except.error (9,3):Except Flt (TermM × Scope)) else .ok (⟨false,numOf (.int (dgB i))⟩,[])) = _
  rw [hn,if_neg (by omega)];rfl
 have ha:atomS (reachM k cs) [] (atI1 [110] (.int (dgB i)) 3) = .ok (⟨1,[cT i]⟩,[]):=by
  unfold atomS
  rw [show (reachM k cs).rel (txt (atI1 [110] (.int (dgB i)) 3).name.g) = some 1 from h0]
  show (if [(⟨.int (dgB i),3⟩:Tn)].length ≠ [0].length then _ else _) = _
  rw [if_neg (by simp)]
  show (match termsS (reachM k cs) [] [⟨.int (dgB i),3⟩] [0] with | .error f=>_ | .ok (xs,sc')=>_) = _
  simp only [termsS,t1]
 rw [ha]
 rfl
theorem e_sense {k:Nat} {cs:List ClauseM} {e:Nat × Nat} (h1:e.1 < k) (h2:e.2 < k) (h8:k≤8) (hc:cs.length < 52):addItem (reachM k cs) (eI2 3 e) = .ok (reachM k (cs ++ [eC e])):=by
 have h0:(reachM k cs).rel (ba [101]) = some 0:=rfl
 have hn:=numOf_dg (k:=e.1) (by omega)
 have hm:=numOf_dg (k:=e.2) (by omega)
 show addClause (reachM k cs) (atI2 [101] (.int (dgB e.1)) (.int (dgB e.2)) 3) [] = _
 unfold addClause
 rw [if_neg (show ¬ (reachM k cs).clauses.length = 52 by show ¬ cs.length = 52;omega)]
 have t1:termS (reachM k cs) [] ⟨.int (dgB e.1),3⟩ 0 = .ok (cT e.1,[]):=by
  show (if ((k:Int))≤numOf (.int (dgB e.1)) then (Except.error (9,3):Except Flt (TermM × Scope)) else .ok (⟨false,numOf (.int (dgB e.1))⟩,[])) = _
  rw [hn,if_neg (by omega)];rfl
 have t2:termS (reachM k cs) [] ⟨.int (dgB e.2),3⟩ 0 = .ok (cT e.2,[]):=by
  show (if ((k:Int))≤numOf (.int (dgB e.2)) then (Except.error (9,3):Except Flt (TermM × Scope)) else .ok (⟨false,numOf (.int (dgB e.2))⟩,[])) = _
  rw [hm,if_neg (by omega)];rfl
 have ha:atomS (reachM k cs) [] (atI2 [101] (.int (dgB e.1)) (.int (dgB e.2)) 3) = .ok (⟨0,[cT e.1,cT e.2]⟩,[]):=by
  unfold atomS
  rw [show (reachM k cs).rel (txt (atI2 [101] (.int (dgB e.1)) (.int (dgB e.2)) 3).name.g) = some 0 from h0]
  show (if [(⟨.int (dgB e.1),3⟩:Tn),⟨.int (dgB e.2),3⟩].length ≠ [0,0].length then _ else _) = _
  rw [if_neg (by simp)]
  show (match termsS (reachM k cs) [] [⟨.int (dgB e.1),3⟩,⟨.int (dgB e.2),3⟩] [0,0] with | .error f=>_ | .ok (xs,sc')=>_) = _
  simp only [termsS,t1,t2]
 rw [ha]
 rfl
theorem ns_sense {k:Nat} (h8:k≤8):∀ (is:List Nat) (cs:List ClauseM),(∀ i ∈ is,i < k)→cs.length + is.length≤52→senseS (reachM k cs) (is.map (nI 3)) = .ok (reachM k (cs ++ is.map nC))
 | [],cs,_,_=>by simp [senseS]
 | i :: is,cs,hi,hl=>by
  simp only [List.map_cons,senseS]
  rw [n_sense (hi i (by simp)) h8 (by simp at hl;omega)]
  dsimp only
  rw [ns_sense h8 is _ (fun j hj=>hi j (by simp [hj])) (by simp at hl ⊢;omega)]
  simp
theorem es_sense {k:Nat} (h8:k≤8):∀ (es:List (Nat × Nat)) (cs:List ClauseM),(∀ e ∈ es,e.1 < k∧e.2 < k)→cs.length + es.length≤52→senseS (reachM k cs) (es.map (eI2 3)) = .ok (reachM k (cs ++ es.map eC))
 | [],cs,_,_=>by simp [senseS]
 | i :: is,cs,hi,hl=>by
  simp only [List.map_cons,senseS]
  rw [e_sense (hi i (by simp)).1 (hi i (by simp)).2 h8 (by simp at hl;omega)]
  dsimp only
  rw [es_sense h8 is _ (fun j hj=>hi j (by simp [hj])) (by simp at hl ⊢;omega)]
  simp
def reachC (k:Nat) (es:List (Nat × Nat)):List ClauseM:=waysC ++ (List.range k).map nC ++ es.map eC
theorem firstC_app (p:ClauseM→Bool):∀ (a b:List ClauseM),(∀ c ∈ a,p c = false)→firstC p (a ++ b) = firstC p b
 | [],_,_=>rfl
 | c :: a,b,h=>by
  rw [List.cons_append,firstC,h c (by simp),if_neg (by decide)]
  exact firstC_app p a b (fun d hd=>h d (by simp [hd]))
theorem firstC_no (p:ClauseM→Bool) (a:List ClauseM) (h:∀ c ∈ a,p c = false):firstC p a = none:=by
 have:=firstC_app p a [] h
 rw [List.append_nil] at this
 exact this
theorem reachC_mem {k:Nat} {es:List (Nat × Nat)} {c:ClauseM} (h:c ∈ reachC k es):c ∈ waysC∨(∃ i,i < k∧c = nC i)∨∃ e ∈ es,c = eC e:=by
 simp only [reachC,List.mem_append,List.mem_map,List.mem_range] at h
 rcases h with (h | ⟨i,h1,rfl⟩) | ⟨e,h1,rfl⟩
 ·exact .inl h
 ·exact .inr (.inl ⟨i,h1,rfl⟩)
 ·exact .inr (.inr ⟨e,h1,rfl⟩)
theorem reach_edges (k:Nat) (es:List (Nat × Nat)):edgesM (reachC k es) = [(2,0),(2,2),(2,0),(3,1),(3,1),(3,2)]:=by
 have h1:∀ l:List Nat,(l.map nC).flatMap edgesC = []:=fun l=>by
  induction l with
  | nil=>rfl
  | cons a l ih=>rw [List.map_cons,List.flatMap_cons,ih];rfl
 have h2:∀ l:List (Nat × Nat),(l.map eC).flatMap edgesC = []:=fun l=>by
  induction l with
  | nil=>rfl
  | cons a l ih=>rw [List.map_cons,List.flatMap_cons,ih];rfl
 unfold edgesM reachC
 rw [List.flatMap_append,List.flatMap_append,h1,h2]
 rfl
theorem reach_later (k:Nat) (es:List (Nat × Nat)):laterS (reachM k (reachC k es)) = .ok (reachM k (reachC k es)):=by
 unfold laterS
 rw [show (reachM k (reachC k es)).clauses = reachC k es from rfl,show (reachM k (reachC k es)).rels.length = 4 from rfl]
 rw [firstC_no,reach_edges,firstC_no]
 ·intro c hc
  rcases reachC_mem hc with h | ⟨i,_,rfl⟩ | ⟨e,_,rfl⟩
  ·simp only [waysC,List.mem_cons,List.not_mem_nil,or_false] at h
   rcases h with rfl | rfl | rfl <;> rfl
  ·rfl
  ·rfl
 ·intro c hc
  rcases reachC_mem hc with h | ⟨i,_,rfl⟩ | ⟨e,_,rfl⟩
  ·simp only [waysC,List.mem_cons,List.not_mem_nil,or_false] at h
   rcases h with rfl | rfl | rfl <;> rfl
  ·rfl
  ·rfl
theorem flat_len {α:Type} {f:α→List Pc} {n:Nat} (h:∀ a,(bytesP (f a)).length = n):∀ l:List α,(bytesP (l.flatMap f)).length = n * l.length
 | []=>by simp [bytesP]
 | a :: l=>by rw [List.flatMap_cons,bytesP_append,List.length_append,h,flat_len h l,List.length_cons,Nat.mul_add,Nat.mul_one,Nat.add_comm]
theorem reach_len {k:Nat} (h8:k≤8) (es:List (Nat × Nat)):(bytesP (reachP k es)).length≤250 + 9 * es.length:=by
 unfold reachP
 rw [bytesP_append,bytesP_append,List.length_append,List.length_append,flat_len (n:=6) (fun _=>rfl),flat_len (n:=9) (fun _=>rfl),List.length_range]
 have:(bytesP (headZ k)).length = 142:=rfl
 omega
theorem reach_read {k:Nat} (h1:1≤k) (h8:k≤8) {es:List (Nat × Nat)} (he:∀ e ∈ es,e.1 < k∧e.2 < k) (h30:es.length≤30):∃ toks,readS (ba (bytesP (reachP k es))) = .ok (toks,reachM k (reachC k es)):=by
 have hl:=reach_len h8 es
 have hs:=scan_pieces (reachP k es) (bytesP (reachP k es)).length 1 (reachP_ok (by omega) (fun e h=>⟨by have:=he e h;omega,by have:=he e h;omega⟩)) (Nat.le_refl _)
 have hi:=reachP_items k es [⟨.fin,lineP (reachP k es) 1⟩]
 refine ⟨withEnd (toksP (reachP k es) 1) (lineP (reachP k es) 1),?_⟩
 unfold readS
 rw [if_neg (by rw [ba_size];omega),ba_size,hs]
 dsimp only
 have hlen:∃ q,(withEnd (toksP (reachP k es) 1) (lineP (reachP k es) 1)).length = (q + 1) + (headI k ++ (List.range k).map (nI 3) ++ es.map (eI2 3)).length:=by
  have hn:∀ (l:List Nat) (z:Nat),l.length≤(toksP (l.flatMap nP) z).length:=fun l=>by
   induction l with
   | nil=>intro z;simp [toksP]
   | cons a l ih=>intro z;rw [List.flatMap_cons,toksP_app,List.length_append,show (toksP (nP a) z).length = 5 from rfl,List.length_cons];have:=ih (lineP (nP a) z);omega
  have he:∀ (l:List (Nat × Nat)) (z:Nat),l.length≤(toksP (l.flatMap ePz) z).length:=fun l=>by
   induction l with
   | nil=>intro z;simp [toksP]
   | cons a l ih=>intro z;rw [List.flatMap_cons,toksP_app,List.length_append,show (toksP (ePz a) z).length = 7 from rfl,List.length_cons];have:=ih (lineP (ePz a) z);omega
  have hh:8≤(toksP (headZ k) 1).length:=by
   show 8≤94
   omega
  have h2:=hn (List.range k) 3
  have h3:=he es 3
  have h4:(headI k).length = 8:=rfl
  have h5:(toksP (reachP k es) 1).length = (toksP (headZ k) 1).length + (toksP ((List.range k).flatMap nP) 3).length + (toksP (es.flatMap ePz) 3).length:=by
   unfold reachP
   rw [toksP_app,toksP_app,lineP_app,headZ_line,flat_line nP_line]
   simp;omega
  refine ⟨(withEnd (toksP (reachP k es) 1) (lineP (reachP k es) 1)).length - 1 - (headI k ++ (List.range k).map (nI 3) ++ es.map (eI2 3)).length,?_⟩
  simp only [withEnd,List.length_append,List.length_map,List.length_cons,List.length_nil] at h2 ⊢
  omega
 obtain ⟨q,hq⟩:=hlen
 rw [hq]
 have e1:itemsG (q + 1 + (headI k ++ (List.range k).map (nI 3) ++ es.map (eI2 3)).length) (withEnd (toksP (reachP k es) 1) (lineP (reachP k es) 1)) = .ok (headI k ++ (List.range k).map (nI 3) ++ es.map (eI2 3)):=by
  unfold withEnd
  rw [hi (q + 1)]
  have e2:itemsG (q + 1) [⟨.fin,lineP (reachP k es) 1⟩] = .ok []:=rfl
  rw [e2]
  simp
 rw [e1]
 dsimp only
 have hw:waysC.length = 3:=rfl
 rw [senseS_app,senseS_app,head_sense h1 h8]
 dsimp only
 rw [ns_sense h8 (List.range k) waysC (fun i hi=>by simpa using hi) (by rw [List.length_range,hw];omega)]
 dsimp only
 rw [es_sense h8 es _ he (by rw [List.length_append,List.length_map,List.length_range,hw];omega)]
 dsimp only
 rw [show waysC ++ (List.range k).map nC ++ es.map eC = reachC k es from rfl,reach_later]
end
section
open Go.RowKit
theorem nv_nil {n:Nat} {rk:Nat→List Nat→Option Nat}:∀ t,nv [] n rk t = rk
 | 0=>rfl
 | t + 1=>by
  funext i l
  rw [nv_no (fun ⟨c,hc,_⟩=>by simp at hc),nv_nil t]
theorem Way.low {E:Nat→Nat→Prop} {k n k' x y:Nat} (hE:∀ a b,E a b→b < k') (h:Way E k n x y):Way E k' n x y:=by
 induction h with
 | one h=>exact .one h
 | cons h1 _ _ ih=>exact .cons h1 (hE _ _ h1) ih
theorem LayP.none {m:Mean} {vals:List Nat} {Fs:Nat→List Nat→Prop} {lay:Nat} {rk rk':Nat→List Nat→Option Nat} (h:LayP m vals Fs lay rk rk') (h1:rulesL m vals lay = []) (h2:∀ i,i < m.rels.length→vals.getD i 0 ≠ lay):rk' = rk:=by
 obtain ⟨T,hT⟩:=h
 rw [hT T (Nat.le_refl _),h1,nv_nil]
 funext i
 unfold leaveP
 rw [if_neg (fun q=>h2 i q.1 q.2)]
theorem nv_none {m:Mean} {vals:List Nat} {lay:Nat} {n:Nat} {rk:Nat→List Nat→Option Nat} {i:Nat} (h:∀ d ∈ rulesL m vals lay,d.head.rel ≠ i):∀ (t:Nat) (l:List Nat),nv (rulesL m vals lay) n rk t i l = rk i l
 | 0,_=>rfl
 | t + 1,l=>by rw [nv_no (derives_none h _ _),nv_none h t l]
theorem ways_lay {m:Mean} {vals:List Nat} {Fs:Nat→List Nat→Prop} {lay:Nat} {rk rk':Nat→List Nat→Option Nat} (h:LayP m vals Fs lay rk rk') {e p l1 l2:Nat} (hr:rulesL m vals lay = [way1 e p l1,way2 e p l2]) (he:e ≠ p) (hp:p < m.rels.length) (hel:e < m.rels.length) (hve:vals.getD e 0 = lay) (hvp:vals.getD p 0 = lay) {E:Nat→Nat→Prop} (hE:∀ x y,x < 8→y < 8→(Fs e [x,y]↔E x y)) (h8:∀ x y,E x y→x < 8∧y < 8) (h0:∀ l,¬ Fs p l) {x y:Nat} (hx:x < 8) (hy:y < 8) (r:Nat):rk' p [x,y] = some r↔Way E 8 r x y∧∀ q,q < r→¬ Way E 8 q x y:=by
 obtain ⟨T,hT⟩:=h
 have key:=fun t=>ways_nv (e:=e) (p:=p) (l1:=l1) (l2:=l2) (n:=m.rels.length) (rk:=leaveP m.rels.length vals Fs rk lay) he hp (E:=E) (fun x y hx hy=>by
  unfold leaveP
  rw [if_pos ⟨hel,hve⟩]
  unfold addRk
  rw [← hE x y hx hy]
  by_cases q:Fs e [x,y]
  ·rw [if_pos q];simp [q]
  ·rw [if_neg q];simp [q]) h8 (fun l=>by
  unfold leaveP
  rw [if_pos ⟨hp,hvp⟩]
  unfold addRk
  rw [if_neg (h0 l)]) t hx hy r
 rw [← hr] at key
 constructor
 ·intro q
  rw [hT T (Nat.le_refl _)] at q
  exact ((key T).1 q).2
 ·intro q
  rw [hT (max T r) (Nat.le_max_left _ _)]
  exact (key (max T r)).2 ⟨Nat.le_max_right _ _,q⟩
theorem reach_facts {k:Nat} {es:List (Nat × Nat)} {i:Nat} {l:List Nat}:factsOf (reachC k es) i l↔(i = 1∧∃ j,j < k∧l = [j])∨(i = 0∧∃ e ∈ es,l = [e.1,e.2]):=by
 constructor
 ·rintro ⟨c,hc,hl,hr,ν,_,ht⟩
  rcases reachC_mem hc with h | ⟨j,hj,rfl⟩ | ⟨e,he,rfl⟩
  ·simp only [waysC,List.mem_cons,List.not_mem_nil,or_false] at h
   rcases h with rfl | rfl | rfl <;> cases hl
  ·exact .inl ⟨hr.symm,j,hj,by rw [← ht];simp [nC,cT,tvR]⟩
  ·exact .inr ⟨hr.symm,e,he,by rw [← ht];simp [eC,cT,tvR]⟩
 ·rintro (⟨rfl,j,hj,rfl⟩ | ⟨rfl,e,he,rfl⟩)
  ·exact ⟨nC j,by simp only [reachC,List.mem_append,List.mem_map,List.mem_range];exact .inl (.inr ⟨j,hj,rfl⟩),rfl,rfl,[0,0,0,0],alls4 (by omega) (by omega) (by omega) (by omega),by simp [nC,cT,tvR]⟩
  ·exact ⟨eC e,by simp only [reachC,List.mem_append,List.mem_map];exact .inr ⟨e,he,rfl⟩,rfl,rfl,[0,0,0,0],alls4 (by omega) (by omega) (by omega) (by omega),by simp [eC,cT,tvR]⟩
theorem reach_lits (k:Nat) (es:List (Nat × Nat)):(reachC k es).filter hasLits = waysC:=by
 have h1:∀ l:List Nat,(l.map nC).filter hasLits = []:=fun l=>by
  rw [List.filter_eq_nil_iff]
  intro c hc
  obtain ⟨j,_,rfl⟩:=List.mem_map.1 hc
  simp [hasLits,nC]
 have h2:∀ l:List (Nat × Nat),(l.map eC).filter hasLits = []:=fun l=>by
  rw [List.filter_eq_nil_iff]
  intro c hc
  obtain ⟨j,_,rfl⟩:=List.mem_map.1 hc
  simp [hasLits,eC]
 unfold reachC
 rw [List.filter_append,List.filter_append,h1,h2,List.append_nil,List.append_nil]
 rfl
theorem reach_vals {k:Nat} {es:List (Nat × Nat)} {vals:List Nat} (hl:LayI (reachC k es) 4 vals) (hs:StableG layG (reachC k es) vals):vals.getD 0 0 = 0∧vals.getD 1 0 = 0∧vals.getD 2 0 = 0∧vals.getD 3 0 = 1:=by
 have hst:StableG layG (reachC k es) [0,0,0,1]:=fun c hc l hl=>by
  rcases reachC_mem hc with h | ⟨j,_,rfl⟩ | ⟨e,_,rfl⟩
  ·simp only [waysC,List.mem_cons,List.not_mem_nil,or_false] at h
   rcases h with rfl | rfl | rfl
   ·simp only [way1,List.mem_cons,List.not_mem_nil,or_false] at hl
    subst hl;rfl
   ·simp only [way2,List.mem_cons,List.not_mem_nil,or_false] at hl
    rcases hl with rfl | rfl <;> rfl
   ·simp only [noC,List.mem_cons,List.not_mem_nil,or_false] at hl
    rcases hl with rfl | rfl | rfl <;> rfl
  ·cases hl
  ·cases hl
 have h0:=hl.2.2 _ hst 0
 have h1:=hl.2.2 _ hst 1
 have h2:=hl.2.2 _ hst 2
 have h3:=hl.2.2 _ hst 3
 have h4:max (vals.getD 3 0) (vals.getD 2 0 + 1) = vals.getD 3 0:=hs (noC 2) (by simp [reachC,waysC]) (⟨2,[vT 0,vT 1]⟩,true) (by simp [noC])
 simp at h0 h1 h2 h3
 simp only [List.getD_eq_getElem?_getD] at *
 refine ⟨by omega,by omega,by omega,by omega⟩
theorem derives_no {rk:Nat→List Nat→Option Nat} {l:Nat} {x y:Nat} (hx:x < 8) (hy:y < 8):derives [noC l] rk 3 [x,y]↔(rk 1 [x]).isSome = true∧(rk 1 [y]).isSome = true∧rk 2 [x,y] = none:=by
 constructor
 ·rintro ⟨c,hc,_,ν,hν,hl,ht⟩
  obtain ⟨a,b,u,d,rfl,_,_,_,_⟩:=of_alls4 hν
  simp only [List.mem_cons,List.not_mem_nil,or_false] at hc
  subst hc
  have h1:=hl (⟨1,[vT 0]⟩,false) (by simp [noC])
  have h2:=hl (⟨1,[vT 1]⟩,false) (by simp [noC])
  have h3:=hl (⟨2,[vT 0,vT 1]⟩,true) (by simp [noC])
  simp [noC,vT,tvR] at ht
  obtain ⟨rfl,rfl⟩:=ht
  simp [litH,vT,tvR] at h1 h2 h3
  exact ⟨h1,h2,h3⟩
 ·rintro ⟨h1,h2,h3⟩
  refine ⟨noC l,by simp,rfl,[x,y,0,0],alls4 hx hy (by omega) (by omega),fun a ha=>?_,by simp [noC,vT,tvR]⟩
  simp only [noC,List.mem_cons,List.not_mem_nil,or_false] at ha
  rcases ha with rfl | rfl | rfl
  ·simpa [litH,vT,tvR] using h1
  ·simpa [litH,vT,tvR] using h2
  ·simpa [litH,vT,tvR] using h3
theorem reach_holds {k:Nat} (h8:k≤8) {es:List (Nat × Nat)} (hes:∀ e ∈ es,e.1 < k∧e.2 < k) {vals:List Nat} (hl:LayI (reachC k es) 4 vals) (hst:StableG layG (reachC k es) vals) {rk:Nat→List Nat→Option Nat} (h:LaysP (reachM k (reachC k es)) vals (factsOf (reachC k es)) (fun _ _=>none) 4 rk) {x y:Nat} (hx:x < k) (hy:y < k) :
  (∀ r,rk 2 [x,y] = some r↔Way (fun a b=>(a,b) ∈ es) k r x y∧∀ q,q < r→¬ Way (fun a b=>(a,b) ∈ es) k q x y)∧rk 3 [x,y] = if (rk 2 [x,y]).isSome then none else some 1:=by
 obtain ⟨v0,v1,v2,v3⟩:=reach_vals hl hst
 have hn:(reachM k (reachC k es)).rels.length = 4:=rfl
 have hR:∀ lay,rulesL (reachM k (reachC k es)) vals lay = waysC.filter (fun c=>decide (vals.getD c.head.rel 0 = lay)):=fun lay=>by
  unfold rulesL
  rw [show (reachM k (reachC k es)).clauses = reachC k es from rfl,reach_lits]
 have hW:∀ lay,waysC.filter (fun c=>decide (vals.getD c.head.rel 0 = lay)) = (if lay = 0 then [way1 0 2 2,way2 0 2 2] else []) ++ (if lay = 1 then [noC 2] else []):=fun lay=>by
  simp only [waysC,List.filter_cons,List.filter_nil]
  rw [show (way1 0 2 2).head.rel = 2 from rfl,show (way2 0 2 2).head.rel = 2 from rfl,show (noC 2).head.rel = 3 from rfl,v2,v3]
  by_cases e0:lay = 0
  ·subst e0;rfl
  ·by_cases e1:lay = 1
   ·subst e1;rfl
   ·have:¬ (0 = lay):=fun q=>e0 q.symm
    have:¬ (1 = lay):=fun q=>e1 q.symm
    simp [*]
 cases h with
 | step h3 s3=>cases h3 with
  | step h2 s2=>cases h2 with
   | step h1 s1=>cases h1 with
    | @step _ rk0 rk1 h0 s0=>
     cases h0
     have hvs:∀ i,i < 4→vals.getD i 0 = 0∨vals.getD i 0 = 1:=fun i hi=>by
      have:i = 0∨i = 1∨i = 2∨i = 3:=by omega
      rcases this with rfl | rfl | rfl | rfl
      ·exact .inl v0
      ·exact .inl v1
      ·exact .inl v2
      ·exact .inr v3
     have e3:=s3.none (by rw [hR,hW];rfl) (fun i hi=>by rw [hn] at hi;rcases hvs i hi with q | q <;> rw [q] <;> decide)
     have e2:=s2.none (by rw [hR,hW];rfl) (fun i hi=>by rw [hn] at hi;rcases hvs i hi with q | q <;> rw [q] <;> decide)
     subst e3 e2
     rename_i rk1
     have r0:rulesL (reachM k (reachC k es)) vals 0 = [way1 0 2 2,way2 0 2 2]:=by rw [hR,hW];rfl
     have r1:rulesL (reachM k (reachC k es)) vals 1 = [noC 2]:=by rw [hR,hW];rfl
     have hw:=ways_lay s0 r0 (by decide) (by rw [hn];decide) (by rw [hn];decide) v0 v2 (E:=fun a b=>(a,b) ∈ es) (fun a b _ _=>by
      rw [reach_facts]
      constructor
      ·rintro (⟨q,_⟩ | ⟨_,e,he,hq⟩)
       ·cases q
       ·simp at hq
        obtain ⟨rfl,rfl⟩:=hq
        exact he
      ·exact fun q=>.inr ⟨rfl,(a,b),q,rfl⟩) (fun a b q=>by have:=hes _ q;exact ⟨by have:=this.1;omega,by have:=this.2;omega⟩) (fun l q=>by
      rcases reach_facts.1 q with ⟨q,_⟩ | ⟨q,_⟩ <;> cases q) (x:=x) (y:=y) (by omega) (by omega)
     obtain ⟨T1,hT1⟩:=s1
     have p2:∀ l,rk 2 l = rk1 2 l:=fun l=>by
      rw [hT1 T1 (Nat.le_refl _),nv_none (by rw [r1];simp [noC])]
      unfold leaveP
      rw [if_neg (by rw [v2];simp)]
     obtain ⟨T0,hT0⟩:=s0
     have p1:∀ j,j < k→(rk1 1 [j]).isSome = true:=fun j hj=>by
      rw [hT0 T0 (Nat.le_refl _),nv_none (by rw [r0];simp [way1,way2])]
      unfold leaveP addRk
      rw [if_pos ⟨by rw [hn];decide,v1⟩,if_pos (reach_facts.2 (.inl ⟨rfl,j,hj,rfl⟩))]
      rfl
     have p3:∀ l,leaveP 4 vals (factsOf (reachC k es)) rk1 1 3 l = none:=fun l=>by
      unfold leaveP addRk
      rw [if_pos ⟨by decide,v3⟩,if_neg (fun q=>by rcases reach_facts.1 q with ⟨q,_⟩ | ⟨q,_⟩ <;> cases q)]
     have pl:∀ i,i < 3→leaveP 4 vals (factsOf (reachC k es)) rk1 1 i = rk1 i:=fun i hi=>by
      unfold leaveP
      have:vals.getD i 0 = 0:=by
       have:i = 0∨i = 1∨i = 2:=by omega
       rcases this with rfl | rfl | rfl
       ·exact v0
       ·exact v1
       ·exact v2
      rw [if_neg (by rw [this];simp)]
     refine ⟨fun r=>?_,?_⟩
     ·rw [p2,hw r]
      constructor
      ·rintro ⟨a,b⟩
       exact ⟨a.low (fun c d q=>(hes _ q).2),fun q hq hw=>b q hq (hw.mono h8)⟩
      ·rintro ⟨a,b⟩
       exact ⟨a.mono h8,fun q hq hw=>b q hq (hw.low (fun c d q=>(hes _ q).2))⟩
     ·have hd:∀ t,derives [noC 2] (nv [noC 2] 4 (leaveP 4 vals (factsOf (reachC k es)) rk1 1) t) 3 [x,y]↔rk1 2 [x,y] = none:=fun t=>by
       have q:∀ i,i < 3→∀ l,nv [noC 2] 4 (leaveP 4 vals (factsOf (reachC k es)) rk1 1) t i l = rk1 i l:=fun i hi l=>by
        rw [← r1,nv_none (by rw [r1];simp [noC];omega),pl i hi]
       rw [derives_no (by omega) (by omega),q 1 (by omega),q 1 (by omega),q 2 (by omega)]
       simp [p1 x hx,p1 y hy]
      have hnv:∀ t,nv [noC 2] 4 (leaveP 4 vals (factsOf (reachC k es)) rk1 1) (t + 1) 3 [x,y] = if (rk1 2 [x,y]).isSome then none else some 1:=fun t=>by
       induction t with
       | zero=>
        cases hz:rk1 2 [x,y] with
        | none=>rw [nv_new (by decide) (show nv [noC 2] 4 (leaveP 4 vals (factsOf (reachC k es)) rk1 1) 0 3 [x,y] = none from p3 _) ((hd 0).2 hz)];rfl
        | some q=>rw [nv_no (fun q2=>by rw [(hd 0).1 q2] at hz;cases hz)];exact p3 _
       | succ t ih=>
        cases hz:rk1 2 [x,y] with
        | none=>rw [hz] at ih;rw [nv_old (by rw [ih];simp),ih]
        | some q=>rw [nv_no (fun q2=>by rw [(hd (t + 1)).1 q2] at hz;cases hz),ih,hz]
      have e3:rk 3 [x,y] = nv [noC 2] 4 (leaveP 4 vals (factsOf (reachC k es)) rk1 1) (T1 + 1) 3 [x,y]:=by
       have:=hT1 (T1 + 1) (by omega)
       rw [r1,hn] at this
       rw [this]
      rw [e3,hnv,p2]
end
end Go.Proofs.YtgjomknpjigkhaaGreatDoor
