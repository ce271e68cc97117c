import Derived.Test.YtgjomknpjigkhaaGreatDoorS18
import Derived.Laws.StructEq
import Derived.Laws.MakeOwn
import Derived.WalkSmall
namespace Go.Proofs.YtgjomknpjigkhaaGreatDoor
set_option maxRecDepth 100000
set_option maxHeartbeats 4000000
section
open Go.RowKit
def ItemV (w:World) (base:Nat) (X:List Nat):ItemI→Value→Prop
 | .dom n z,v=>v=.iface 321 (.agg #[.string (kindOf n.g),.string (txt n.g),.int .i64 n.line,.string (kindOf z.g),.string (txt z.g),.int .i64 z.line])
 | .rel n cs,v=>∃ cv,v=.iface 325 (.agg #[.string (kindOf n.g),.string (txt n.g),.int .i64 n.line,cv])∧w.ownsRow base 129 3 cv cs.length (tokCs cs)∧∀ j,cv.ownBlock=some j→j∉X
 | .clause a ls,v=>∃ hv lv cs,v=.iface 330 (.agg #[.string (kindOf a.name.g),.string (txt a.name.g),.int .i64 a.name.line,hv,lv])∧w.ownsRow base 129 3 hv a.terms.length (tokCs a.terms)∧(∀ j,hv.ownBlock=some j→j∉X)∧w.ownsRow base 353 5 lv ls.length cs∧(∀ j,lv.ownBlock=some j→j∉X)∧LitsAre w base X ls cs
theorem ItemV.keeps {w w':World} {base:Nat} {X:List Nat} {i:ItemI} {v:Value} {T:List Nat} (h:ItemV w base X i v) (k:Keeps T w w') (hT:∀ j∈T,j∈X∨j<base∨w.heap.size≤j):ItemV w' base X i v:=by
 have own:∀ {e:TypeId} {size n:Nat} {u:Value} {xs:List Value},w.ownsRow base e size u n xs→(∀ j,u.ownBlock=some j→j∉X)→w'.ownsRow base e size u n xs:=fun h hx=>ownsRow_kept h k (fun j hj hjT=>by
  have:=ownE_lt h j hj
  rcases hT j hjT with h' | h' | h'
  ·exact hx j hj h'
  ·omega
  ·omega)
 cases i with
 | dom n z=>exact h
 | rel n cs=>
  obtain ⟨cv,h1,h2,h3⟩:=h
  exact ⟨cv,h1,own h2 h3,h3⟩
 | clause a ls=>
  obtain ⟨hv,lv,cs,h1,h2,h3,h4,h5,h6⟩:=h
  exact ⟨hv,lv,cs,h1,own h2 h3,h3,own h4 h5,h5,h6.keeps k hT⟩
theorem ItemV.apart {w:World} {base:Nat} {X Y:List Nat} {i:ItemI} {v:Value} (h:ItemV w base X i v) (hY:∀ j∈Y,j∈X∨w.heap.size≤j):ItemV w base Y i v:=by
 have ap:∀ {e:TypeId} {size n:Nat} {u:Value} {xs:List Value},w.ownsRow base e size u n xs→(∀ j,u.ownBlock=some j→j∉X)→∀ j,u.ownBlock=some j→j∉Y:=fun h hx j hj hjY=>by
  have:=ownE_lt h j hj
  rcases hY j hjY with h' | h'
  ·exact hx j hj h'
  ·omega
 cases i with
 | dom n z=>exact h
 | rel n cs=>
  obtain ⟨cv,h1,h2,h3⟩:=h
  exact ⟨cv,h1,h2,ap h2 h3⟩
 | clause a ls=>
  obtain ⟨hv,lv,cs,h1,h2,h3,h4,h5,h6⟩:=h
  exact ⟨hv,lv,cs,h1,h2,ap h2 h3,h4,ap h4 h5,h6.apart hY⟩
theorem LitsAre.above {w:World} {base:Nat} {X Y:List Nat} {ls:List LitI} {cs:List Value} (h:LitsAre w base X ls cs) (hY:∀ j∈Y,j<base):LitsAre w base Y ls cs:=by
 induction ls generalizing cs with
 | nil=>exact h
 | cons l ls ih=>
  obtain ⟨v,rest,h1,h2,h3,h4⟩:=h
  exact ⟨v,rest,h1,h2,fun j hj hjY=>by have:=(ownE_base h2 j hj).1;have:=hY j hjY;omega,ih h4⟩
theorem ItemV.above {w:World} {base:Nat} {X Y:List Nat} {i:ItemI} {v:Value} (h:ItemV w base X i v) (hY:∀ j∈Y,j<base):ItemV w base Y i v:=by
 have ap:∀ {e:TypeId} {size n:Nat} {u:Value} {xs:List Value},w.ownsRow base e size u n xs→∀ j,u.ownBlock=some j→j∉Y:=fun h j hj hjY=>by
  have:=(ownE_base h j hj).1
  have:=hY j hjY
  omega
 cases i with
 | dom n z=>exact h
 | rel n cs=>
  obtain ⟨cv,h1,h2,h3⟩:=h
  exact ⟨cv,h1,h2,ap h2⟩
 | clause a ls=>
  obtain ⟨hv,lv,cs,h1,h2,h3,h4,h5,h6⟩:=h
  exact ⟨hv,lv,cs,h1,h2,ap h2,h4,ap h4,h6.above hY⟩
theorem ItemV.mono {w:World} {base base':Nat} {X:List Nat} {i:ItemI} {v:Value} (h:ItemV w base X i v) (hb:base'≤base):ItemV w base' X i v:=by
 cases i with
 | dom n z=>exact h
 | rel n cs=>
  obtain ⟨cv,h1,h2,h3⟩:=h
  exact ⟨cv,h1,ownE_mono h2 hb,h3⟩
 | clause a ls=>
  obtain ⟨hv,lv,cs,h1,h2,h3,h4,h5,h6⟩:=h
  exact ⟨hv,lv,cs,h1,ownE_mono h2 hb,h3,ownE_mono h4 hb,h5,h6.mono hb⟩
def ItemTo (base b g:Nat) (r:Except Nat (ItemI×List Tn)) (e:Ending) (w':World):Prop:=match r with
 | .ok (i,us)=>∃ v,e=.returned v∧ItemV w' base [] i v∧v.oneCell' = true∧PAt w' b g us
 | .error l=>e=gaveUp 5 l
theorem item_dom {w:World} {b g:Nat} {us:List Tn} (h:PAt w b g us) (he:Ended us) (hl:us.length≤1000000) (hs:sees isDomG us=true):Calls Tryz.prog 199 #[.pointer (some ⟨b,0,none⟩)] w fun e w'=>ItemTo w.heap.size b g (itemG us) e w'∧Keeps [b] w w':=by
 have hT:=hide (takes_calls kp_dom rfl h he hl)
 have g1:=sees_goes dom_noFin he hs
 have hlow:=h.lt
 rw [hs] at hT
 clear h
 unfold itemG
 rw [if_pos hs]
 cases hr1:takeG isNameG us.tail with
 | error l=>
  go_enter Tryz.func199,Tryz.ntmps199
  go_wp2_with fail
  refine hT.out.mono ?_
  rintro e w1 ⟨rfl,hp1,k1⟩
  have h2:=hide (take_calls (us:=us.tail) kp_name rfl hp1 g1.2 (by have:=g1.1;omega))
  rw [hr1] at h2
  go_wp2_with fail
  refine h2.out.mono ?_
  rintro e w2 ⟨rfl,k2⟩
  exact ⟨rfl,rfl,k1.trans k2⟩
 | ok q1=>
  obtain ⟨n,us1⟩:=q1
  have g2:=(takeG_goes name_noFin g1.2 hr1).1
  simp only
  cases hr2:takeG isIntG us1 with
  | error l=>
   go_enter Tryz.func199,Tryz.ntmps199
   go_wp2_with fail
   refine hT.out.mono ?_
   rintro e w1 ⟨rfl,hp1,k1⟩
   have h2:=hide (take_calls (us:=us.tail) kp_name rfl hp1 g1.2 (by have:=g1.1;omega))
   rw [hr1] at h2
   go_wp2_with fail
   refine h2.out.mono ?_
   rintro e w2 ⟨⟨rfl,hp2⟩,k2⟩
   have h3:=hide (take_calls kp_int rfl hp2 g2.2 (by have:=g1.1;have:=g2.1;omega))
   rw [hr2] at h3
   go_wp2_with fail
   refine h3.out.mono ?_
   rintro e w3 ⟨rfl,k3⟩
   exact ⟨rfl,rfl,(k1.trans k2).trans k3⟩
  | ok q2=>
   obtain ⟨z,us2⟩:=q2
   have g3:=(takeG_goes int_noFin g2.2 hr2).1
   simp only
   cases hr3:takeG isSemiG us2 with
   | error l=>
    go_enter Tryz.func199,Tryz.ntmps199
    go_wp2_with fail
    refine hT.out.mono ?_
    rintro e w1 ⟨rfl,hp1,k1⟩
    have h2:=hide (take_calls (us:=us.tail) kp_name rfl hp1 g1.2 (by have:=g1.1;omega))
    rw [hr1] at h2
    go_wp2_with fail
    refine h2.out.mono ?_
    rintro e w2 ⟨⟨rfl,hp2⟩,k2⟩
    have h3:=hide (take_calls kp_int rfl hp2 g2.2 (by have:=g1.1;have:=g2.1;omega))
    rw [hr2] at h3
    go_wp2_with fail
    refine h3.out.mono ?_
    rintro e w3 ⟨⟨rfl,hp3⟩,k3⟩
    have h4:=hide (take_calls kp_semi rfl (alloc_at w3 hp3 (.cells #[.string (kindOf n.g),.string (txt n.g),.int .i64 n.line,.string (kindOf z.g),.string (txt z.g),.int .i64 z.line] 321)) g3.2 (by have:=g1.1;have:=g2.1;have:=g3.1;omega))
    rw [hr3] at h4
    have kA:=Keeps.alloc [b] w3 (.cells #[.string (kindOf n.g),.string (txt n.g),.int .i64 n.line,.string (kindOf z.g),.string (txt z.g),.int .i64 z.line] 321)
    unfold tokV
    go_wp2_with fail
    refine h4.out.mono ?_
    rintro e w4 ⟨rfl,k4⟩
    exact ⟨rfl,rfl,(((k1.trans k2).trans k3).trans kA).trans k4⟩
   | ok q3=>
    obtain ⟨t3,us3⟩:=q3
    go_enter Tryz.func199,Tryz.ntmps199
    go_wp2_with fail
    refine hT.out.mono ?_
    rintro e w1 ⟨rfl,hp1,k1⟩
    have h2:=hide (take_calls (us:=us.tail) kp_name rfl hp1 g1.2 (by have:=g1.1;omega))
    rw [hr1] at h2
    go_wp2_with fail
    refine h2.out.mono ?_
    rintro e w2 ⟨⟨rfl,hp2⟩,k2⟩
    have h3:=hide (take_calls kp_int rfl hp2 g2.2 (by have:=g1.1;have:=g2.1;omega))
    rw [hr2] at h3
    go_wp2_with fail
    refine h3.out.mono ?_
    rintro e w3 ⟨⟨rfl,hp3⟩,k3⟩
    have h4:=hide (take_calls kp_semi rfl (alloc_at w3 hp3 (.cells #[.string (kindOf n.g),.string (txt n.g),.int .i64 n.line,.string (kindOf z.g),.string (txt z.g),.int .i64 z.line] 321)) g3.2 (by have:=g1.1;have:=g2.1;have:=g3.1;omega))
    rw [hr3] at h4
    have kA:=Keeps.alloc [b] w3 (.cells #[.string (kindOf n.g),.string (txt n.g),.int .i64 n.line,.string (kindOf z.g),.string (txt z.g),.int .i64 z.line] 321)
    have hA:=CellsAt.new w3 #[.string (kindOf n.g),.string (txt n.g),.int .i64 n.line,.string (kindOf z.g),.string (txt z.g),.int .i64 z.line] 321
    have hb3:=hp3.lt
    unfold tokV
    go_wp2_with fail
    refine h4.out.mono ?_
    rintro e w4 ⟨⟨rfl,hp4⟩,k4⟩
    have hA4:=hA.keeps k4 (by simp;omega)
    have d0:=hA4.cell 0
    have d1:=hA4.cell 1
    have d2:=hA4.cell 2
    have d3:=hA4.cell 3
    have d4:=hA4.cell 4
    have d5:=hA4.cell 5
    clear hA4 hA
    go_wp2_with fail
    go_ret
    exact ⟨⟨_,rfl,rfl,rfl,hp4⟩,(((k1.trans k2).trans k3).trans kA).trans k4⟩
theorem item_rel {w:World} {b g:Nat} {us:List Tn} (h:PAt w b g us) (he:Ended us) (hl:us.length≤1000000) (hs0:sees isDomG us=false) (hs:sees isRelG us=true):Calls Tryz.prog 199 #[.pointer (some ⟨b,0,none⟩)] w fun e w'=>ItemTo w.heap.size b g (itemG us) e w'∧Keeps [b] w w':=by
 have hT0:=hide (takes_calls kp_dom rfl h he hl)
 have g1:=sees_goes rel_noFin he hs
 have hlow:=h.lt
 rw [hs0] at hT0
 clear h
 unfold itemG
 rw [if_neg (by rw [hs0];decide),if_pos hs]
 cases hr1:takeG isNameG us.tail with
 | error l=>
  go_enter Tryz.func199,Tryz.ntmps199
  go_wp2_with fail
  refine hT0.out.mono ?_
  rintro e w0 ⟨rfl,hp0,k0⟩
  have hT:=hide (takes_calls (us:=us) kp_rel rfl hp0 he hl)
  rw [hs] at hT
  go_wp2_with fail
  refine hT.out.mono ?_
  rintro e w1 ⟨rfl,hp1,k1⟩
  have h2:=hide (take_calls (us:=us.tail) kp_name rfl hp1 g1.2 (by have:=g1.1;omega))
  rw [hr1] at h2
  go_wp2_with fail
  refine h2.out.mono ?_
  rintro e w2 ⟨rfl,k2⟩
  exact ⟨rfl,rfl,(k0.trans k1).trans k2⟩
 | ok q1=>
  obtain ⟨n,us1⟩:=q1
  have g2:=(takeG_goes name_noFin g1.2 hr1).1
  simp only
  cases hr2:listG isNameG us1 with
  | error l=>
   go_enter Tryz.func199,Tryz.ntmps199
   go_wp2_with fail
   refine hT0.out.mono ?_
   rintro e w0 ⟨rfl,hp0,k0⟩
   have hT:=hide (takes_calls (us:=us) kp_rel rfl hp0 he hl)
   rw [hs] at hT
   go_wp2_with fail
   refine hT.out.mono ?_
   rintro e w1 ⟨rfl,hp1,k1⟩
   have h2:=hide (take_calls (us:=us.tail) kp_name rfl hp1 g1.2 (by have:=g1.1;omega))
   rw [hr1] at h2
   go_wp2_with fail
   refine h2.out.mono ?_
   rintro e w2 ⟨⟨rfl,hp2⟩,k2⟩
   have h3:=hide (list252_calls hp2 g2.2 (by have:=g1.1;have:=g2.1;omega))
   rw [hr2] at h3
   go_wp2_with fail
   refine h3.out.mono ?_
   rintro e w3 ⟨rfl,k3⟩
   exact ⟨rfl,rfl,((k0.trans k1).trans k2).trans k3⟩
  | ok q2=>
   obtain ⟨cs,us2⟩:=q2
   have g3:=listG_goes name_noFin g2.2 hr2
   simp only
   cases hr3:takeG isSemiG us2 with
   | error l=>
    go_enter Tryz.func199,Tryz.ntmps199
    go_wp2_with fail
    refine hT0.out.mono ?_
    rintro e w0 ⟨rfl,hp0,k0⟩
    have hT:=hide (takes_calls (us:=us) kp_rel rfl hp0 he hl)
    rw [hs] at hT
    go_wp2_with fail
    refine hT.out.mono ?_
    rintro e w1 ⟨rfl,hp1,k1⟩
    have h2:=hide (take_calls (us:=us.tail) kp_name rfl hp1 g1.2 (by have:=g1.1;omega))
    rw [hr1] at h2
    go_wp2_with fail
    refine h2.out.mono ?_
    rintro e w2 ⟨⟨rfl,hp2⟩,k2⟩
    have h3:=hide (list252_calls hp2 g2.2 (by have:=g1.1;have:=g2.1;omega))
    rw [hr2] at h3
    go_wp2_with fail
    refine h3.out.mono ?_
    rintro e w3 ⟨⟨cv,rfl,own,hp3⟩,k3⟩
    obtain ⟨cva,cvc,rfl⟩:=ownE_len own
    have h4:=hide (take_calls kp_semi rfl (alloc_at w3 hp3 (.cells #[.string (kindOf n.g),.string (txt n.g),.int .i64 n.line,.slice cva cs.length cvc] 325)) g3.2 (by have:=g1.1;have:=g2.1;have:=g3.1;omega))
    rw [hr3] at h4
    have kA:=Keeps.alloc [b] w3 (.cells #[.string (kindOf n.g),.string (txt n.g),.int .i64 n.line,.slice cva cs.length cvc] 325)
    unfold tokV
    go_wp2_with fail
    refine h4.out.mono ?_
    rintro e w4 ⟨rfl,k4⟩
    exact ⟨rfl,rfl,((((k0.trans k1).trans k2).trans k3).trans kA).trans k4⟩
   | ok q3=>
    obtain ⟨t3,us3⟩:=q3
    go_enter Tryz.func199,Tryz.ntmps199
    go_wp2_with fail
    refine hT0.out.mono ?_
    rintro e w0 ⟨rfl,hp0,k0⟩
    have hT:=hide (takes_calls (us:=us) kp_rel rfl hp0 he hl)
    rw [hs] at hT
    go_wp2_with fail
    refine hT.out.mono ?_
    rintro e w1 ⟨rfl,hp1,k1⟩
    have h2:=hide (take_calls (us:=us.tail) kp_name rfl hp1 g1.2 (by have:=g1.1;omega))
    rw [hr1] at h2
    go_wp2_with fail
    refine h2.out.mono ?_
    rintro e w2 ⟨⟨rfl,hp2⟩,k2⟩
    have h3:=hide (list252_calls hp2 g2.2 (by have:=g1.1;have:=g2.1;omega))
    rw [hr2] at h3
    go_wp2_with fail
    refine h3.out.mono ?_
    rintro e w3 ⟨⟨cv,rfl,own,hp3⟩,k3⟩
    obtain ⟨cva,cvc,rfl⟩:=ownE_len own
    have h4:=hide (take_calls kp_semi rfl (alloc_at w3 hp3 (.cells #[.string (kindOf n.g),.string (txt n.g),.int .i64 n.line,.slice cva cs.length cvc] 325)) g3.2 (by have:=g1.1;have:=g2.1;have:=g3.1;omega))
    rw [hr3] at h4
    have kA:=Keeps.alloc [b] w3 (.cells #[.string (kindOf n.g),.string (txt n.g),.int .i64 n.line,.slice cva cs.length cvc] 325)
    have hA:=CellsAt.new w3 #[.string (kindOf n.g),.string (txt n.g),.int .i64 n.line,.slice cva cs.length cvc] 325
    have hb3:=hp3.lt
    have hsz:w.heap.size≤w2.heap.size:=by have:=k0.size;have:=k1.size;have:=k2.size;omega
    unfold tokV
    go_wp2_with fail
    refine h4.out.mono ?_
    rintro e w4 ⟨⟨rfl,hp4⟩,k4⟩
    have hA4:=hA.keeps k4 (by simp;omega)
    have d0:=hA4.cell 0
    have d1:=hA4.cell 1
    have d2:=hA4.cell 2
    have d3:=hA4.cell 3
    have hown4:=ownE_mono (ownsRow_kept own (kA.trans k4) (fun j hj hT=>by have:=(ownE_base own j hj).1;have e:j=b:=(by simpa using hT);omega)) hsz
    have Hown4:=hide hown4
    clear hA4 hA own hown4
    go_wp2_with fail
    go_ret
    exact ⟨⟨_,rfl,⟨_,rfl,Hown4.out,by simp⟩,rfl,hp4⟩,((((k0.trans k1).trans k2).trans k3).trans kA).trans k4⟩
theorem item_clause {w:World} {b g:Nat} {us:List Tn} (h:PAt w b g us) (he:Ended us) (hl:us.length≤1000000) (hs0:sees isDomG us=false) (hs:sees isRelG us=false):Calls Tryz.prog 199 #[.pointer (some ⟨b,0,none⟩)] w fun e w'=>ItemTo w.heap.size b g (itemG us) e w'∧Keeps [b] w w':=by
 have hT0:=hide (takes_calls kp_dom rfl h he hl)
 have hlow:=h.lt
 rw [hs0] at hT0
 clear h
 have hi:itemG us=(match clauseG us with
   | .error l=>.error l
   | .ok (q,vs)=>.ok (.clause q.1 q.2,vs)):=by
  unfold itemG clauseG
  rw [if_neg (by rw [hs0];decide),if_neg (by rw [hs];decide)]
  cases atomG us with
  | error l=>rfl
  | ok q=>
   obtain ⟨a,vs⟩:=q
   simp only
   cases bodyG vs with
   | error l=>rfl
   | ok q=>rfl
 rw [hi]
 cases hr1:clauseG us with
 | error l=>
  go_enter Tryz.func199,Tryz.ntmps199
  go_wp2_with fail
  refine hT0.out.mono ?_
  rintro e w0 ⟨rfl,hp0,k0⟩
  have hT:=hide (takes_calls (us:=us) kp_rel rfl hp0 he hl)
  rw [hs] at hT
  go_wp2_with fail
  refine hT.out.mono ?_
  rintro e w1 ⟨rfl,hp1,k1⟩
  have h2:=hide (clause_calls (us:=us) hp1 he hl)
  rw [hr1] at h2
  go_wp2_with fail
  refine h2.out.mono ?_
  rintro e w2 ⟨rfl,k2⟩
  exact ⟨rfl,rfl,(k0.trans k1).trans k2⟩
 | ok q1=>
  obtain ⟨⟨a,ls⟩,us1⟩:=q1
  go_enter Tryz.func199,Tryz.ntmps199
  go_wp2_with fail
  refine hT0.out.mono ?_
  rintro e w0 ⟨rfl,hp0,k0⟩
  have hT:=hide (takes_calls (us:=us) kp_rel rfl hp0 he hl)
  rw [hs] at hT
  go_wp2_with fail
  refine hT.out.mono ?_
  rintro e w1 ⟨rfl,hp1,k1⟩
  have h2:=hide (clause_calls (us:=us) hp1 he hl)
  rw [hr1] at h2
  go_wp2_with fail
  refine h2.out.mono ?_
  rintro e w2 ⟨⟨hv,lv,cs,rfl,own1,_,own2,hla,hp2⟩,k2⟩
  have hsz:w.heap.size≤w1.heap.size:=by have:=k0.size;have:=k1.size;omega
  go_wp2_with fail
  go_ret
  exact ⟨⟨_,rfl,⟨hv,lv,cs,rfl,ownE_mono own1 hsz,by simp,ownE_mono own2 hsz,by simp,(hla.mono hsz).apart (fun j hj=>by cases hj)⟩,rfl,hp2⟩,(k0.trans k1).trans k2⟩
theorem item_calls {w:World} {b g:Nat} {us:List Tn} (h:PAt w b g us) (he:Ended us) (hl:us.length≤1000000):Calls Tryz.prog 199 #[.pointer (some ⟨b,0,none⟩)] w fun e w'=>ItemTo w.heap.size b g (itemG us) e w'∧Keeps [b] w w':=by
 cases h1:sees isDomG us with
 | true=>exact item_dom h he hl h1
 | false=>
  cases h2:sees isRelG us with
  | true=>exact item_rel h he hl h1 h2
  | false=>exact item_clause h he hl h1 h2
end
section
open Go.RowKit
theorem info273:(Tryz.prog.info? 273).map (fun i=>(i.zero,i.size,i.bytes))=some (some Value.nilIface,1,16):=by kernel_rfl
def ItemsAre (w:World) (base:Nat) (X:List Nat):List ItemI→List Value→Prop
 | [],vs=>vs=[]
 | i :: is,vs=>∃ v rest,vs=v :: rest∧ItemV w base X i v∧ItemsAre w base X is rest
theorem ItemsAre.keeps {w w':World} {base:Nat} {X:List Nat} {is:List ItemI} {vs:List Value} {T:List Nat} (h:ItemsAre w base X is vs) (k:Keeps T w w') (hT:∀ j∈T,j∈X∨j<base∨w.heap.size≤j):ItemsAre w' base X is vs:=by
 induction is generalizing vs with
 | nil=>exact h
 | cons i is ih=>
  obtain ⟨v,rest,h1,h2,h3⟩:=h
  exact ⟨v,rest,h1,h2.keeps k hT,ih h3⟩
theorem ItemsAre.apart {w:World} {base:Nat} {X Y:List Nat} {is:List ItemI} {vs:List Value} (h:ItemsAre w base X is vs) (hY:∀ j∈Y,j∈X∨w.heap.size≤j):ItemsAre w base Y is vs:=by
 induction is generalizing vs with
 | nil=>exact h
 | cons i is ih=>
  obtain ⟨v,rest,h1,h2,h3⟩:=h
  exact ⟨v,rest,h1,h2.apart hY,ih h3⟩
theorem ItemsAre.snoc {w:World} {base:Nat} {X:List Nat} {is:List ItemI} {vs:List Value} (h:ItemsAre w base X is vs) {i:ItemI} {v:Value} (h2:ItemV w base X i v):ItemsAre w base X (is++[i]) (vs++[v]):=by
 induction is generalizing vs with
 | nil=>
  have:vs=[]:=h
  subst this
  exact ⟨v,[],rfl,h2,rfl⟩
 | cons x is ih=>
  obtain ⟨u,rest,h1,k2,k3⟩:=h
  exact ⟨u,rest++[v],by rw [h1];rfl,k2,ih k3⟩
theorem ItemsAre.mono {w:World} {base base':Nat} {X:List Nat} {is:List ItemI} {vs:List Value} (h:ItemsAre w base X is vs) (hb:base'≤base):ItemsAre w base' X is vs:=by
 induction is generalizing vs with
 | nil=>exact h
 | cons i is ih=>
  obtain ⟨v,rest,h1,h2,h3⟩:=h
  exact ⟨v,rest,h1,h2.mono hb,ih h3⟩
theorem ItemV.iface {w:World} {base:Nat} {X:List Nat} {i:ItemI} {v:Value} (h:ItemV w base X i v):∃ t x,v=.iface t x:=by
 cases i with
 | dom n z=>exact ⟨_,_,h⟩
 | rel n cs=>obtain ⟨cv,h1,_⟩:=h;exact ⟨_,_,h1⟩
 | clause a ls=>obtain ⟨hv,lv,cs,h1,_⟩:=h;exact ⟨_,_,h1⟩
def ParseTo (base:Nat) (r:Except Nat (List ItemI)) (e:Ending) (w':World):Prop:=match r with
 | .ok is=>∃ v vs,e=.returned v∧w'.ownsRow base 273 1 v is.length vs∧ItemsAre w' base v.ownBlock.toList is vs
 | .error l=>e=gaveUp 5 l
def aheadI (d:List ItemI):Except Nat (List ItemI)→Except Nat (List ItemI)
 | .ok r=>.ok (d++r)
 | .error l=>.error l
theorem parse_calls {w:World} {g c:Nat} {toks:List Tn} (ht:PTok w g 0 toks) (hc:toks.length≤c) (he:Ended toks) (hl:toks.length≤1000000):Calls Tryz.prog 135 #[.slice (some ⟨g,0,none⟩) toks.length c] w fun e w'=>ParseTo w.heap.size (itemsG toks.length toks) e w'∧Keeps [] w w':=by
 obtain ⟨i0,hi0,hz0,hz1,hz2⟩:=info_parts info273
 have hglt:g<w.heap.size:=by obtain ⟨cs,h,_⟩:=ht;exact h.lt
 have kA:=Keeps.alloc [] w (.cells #[.slice (some ⟨g,0,none⟩) toks.length c] 276)
 have hP0:PAt (w.alloc (.cells #[.slice (some ⟨g,0,none⟩) toks.length c] 276)) w.heap.size g toks:=⟨0,c,CellsAt.new w _ 276,hc,ht.keeps kA (by simp),by omega⟩
 have HP0:=hide hP0
 generalize hR:itemsG toks.length toks=R
 have HR:=hide hR
 clear hP0 hR
 go_enter Tryz.func135,Tryz.ntmps135
 go_wp2_with fail
 go_loopw [4] (fun y wr=>∃ (k:Nat) (d:List ItemI) (vs:List Value) (xs:List Tn),PAt wr w.heap.size g xs∧Ended xs∧xs.length≤k∧d.length+xs.length≤toks.length∧wr.ownsRow (w.heap.size+1) 273 1 y d.length vs∧ItemsAre wr (w.heap.size+1) y.ownBlock.toList d vs∧Keeps [] w wr∧w.heap.size+1≤wr.heap.size∧aheadI d (itemsG k xs)=R) (fun _ wr=>sLen (wr.cell? ⟨w.heap.size,0,none⟩))
 case atStart=>exact ⟨toks.length,[],[],toks,HP0.out,he,Nat.le_refl _,by simp,World.ownsRow_nil ..,rfl,kA,by rw [sizeE_alloc];omega,by rw [←HR.out];cases itemsG toks.length toks <;> rfl⟩
 case round=>
  obtain ⟨k,d,vs,xs,hpx,hex,hkx,hdx,own,hia,kr,hsz,hres⟩:=hrel
  have hlen:=hpx.len
  obtain ⟨k,rfl⟩:∃ k',k=k' + 1:=by obtain ⟨t,q,rfl⟩:=hex.cons;simp at hkx;exact ⟨k - 1,by omega⟩
  have hne:xs≠[]:=by obtain ⟨_,_,h⟩:=hex.cons;rw [h];simp
  have hS:=hide (sees_calls kp_fin hpx hne (by omega))
  have hI:=hide (item_calls hpx hex (by omega))
  have Hpx:=hide hpx
  have Hlen:=hide hlen
  rw [itemsG] at hres
  clear HR HP0 hpx hlen
  cases hs:sees isFinG xs with
  | true=>
   rw [hs,if_pos rfl] at hres
   rw [hs] at hS
   have Hres:=hide hres
   clear hres
   go_wp2_with fail
   refine hS.out.mono ?_
   rintro e w1 ⟨rfl,rfl⟩
   go_wp2_with fail
   go_ret
   refine ⟨?_,kr⟩
   rw [←Hres.out]
   show ParseTo w.heap.size (.ok (d++[])) _ _
   rw [List.append_nil]
   exact ⟨_,vs,rfl,ownE_mono own (by omega),hia.mono (by omega)⟩
  | false=>
   rw [hs,if_neg (by decide)] at hres
   rw [hs] at hS
   cases hr:itemG xs with
   | error l=>
    rw [hr] at hres hI
    have Hres:=hide hres
    clear hres
    go_wp2_with fail
    refine hS.out.mono ?_
    rintro e w1 ⟨rfl,rfl⟩
    go_wp2_with fail
    refine hI.out.mono ?_
    rintro e w2 ⟨rfl,k2⟩
    refine ⟨rfl,?_,kr.trans_new k2 (by simp)⟩
    rw [←Hres.out]
    rfl
   | ok q=>
    obtain ⟨it,us1⟩:=q
    rw [hr] at hres hI
    have g1:=itemG_goes hex hr
    have hah:aheadI (d++[it]) (itemsG k us1)=R:=by
     rw [←hres]
     show _=aheadI d (match itemsG k us1 with
      | .error l=>Except.error l
      | .ok r=>.ok (it :: r))
     cases itemsG k us1 with
     | error l=>rfl
     | ok q=>simp [aheadI]
    have Hah:=hide hah
    clear hres hah
    obtain ⟨ay,cy,rfl⟩:=ownE_len own
    go_wp2_with fail
    refine hS.out.mono ?_
    rintro e w1 ⟨rfl,rfl⟩
    go_wp2_with fail
    refine hI.out.mono ?_
    rintro e w2 ⟨⟨iv,rfl,hiv,hone1,hp2⟩,k2⟩
    obtain ⟨ity,ix,rfl⟩:=hiv.iface
    have hlv:∀ j,(Value.slice ay d.length cy).ownBlock=some j→w.heap.size+1≤j∧j<w1.heap.size:=fun j hj=>ownE_lt own j hj
    have kB:=k2.trans (Keeps.alloc [w.heap.size] w2 (.cells #[.iface ity ix] 273))
    have ownB:=ownsRow_kept own kB (fun j hj h=>by have:=hlv j hj;have e:j=w.heap.size:=(by simpa using h);omega)
    have hiaB:=hia.keeps kB (fun j hj=>by have e:j=w.heap.size:=(by simpa using hj);omega)
    have hivB:ItemV (w2.alloc (.cells #[.iface ity ix] 273)) (w.heap.size+1) (Value.slice ay d.length cy).ownBlock.toList it (.iface ity ix):=((hiv.keeps (Keeps.alloc [] w2 _) (by simp)).above (fun j hj=>by have:=hlv j (by simpa using hj);omega)).mono hsz
    have hp3:=alloc_at w2 hp2 (.cells #[.iface ity ix] 273)
    have hone:∀ (j:Nat) (u:Value),[Value.iface ity ix][j]?=some u→(w2.alloc (.cells #[.iface ity ix] 273)).cell? ((⟨w2.heap.size,0,none⟩:Addr).add j)=some u:=by
     intro j u hu
     rw [Addr.add_lit,Nat.zero_add,(CellsAt.new w2 #[.iface ity ix] 273).cell]
     match j with
     | 0=>simpa using hu
     | j+1=>simp at hu
    have hszB:w.heap.size+1≤(w2.alloc (.cells #[.iface ity ix] 273)).heap.size:=by rw [sizeE_alloc];have:=k2.size;omega
    go_wp2_with (at_builtin;refine wpList_append_own_at _ rfl _ _ 203 rfl (w.heap.size+1) 273 i0 Value.nilIface 1 16 Tryz.underlying203 hi0 hz0 hz1 hz2 rfl (by decide) _ d.length vs rfl ownB ⟨w2.heap.size,0,none⟩ 1 1 [.iface ity ix] rfl (by simp) hone (by simp [Value.oneCell']) (by unfold maxLen;omega) (by omega) hszB ?_)
    intro v' W2 own2 grow2 nil2 at2
    have k3:=grownBy_keeps' grow2 (Value.slice ay d.length cy).ownBlock.toList (fun r e=>.inl (by simp [e]))
    have kf:Keeps [] w W2:=(kr.trans_new kB (by simp)).trans_new k3 fun j hj=>.inr (by have:=hlv j (by simpa using hj);omega)
    have hp4:=hp3.keeps k3 (fun hT=>by have:=hlv _ (by simpa using hT);omega) (fun hT=>by have:=hlv _ (by simpa using hT);omega)
    have hY:∀ j∈v'.ownBlock.toList,j∈(Value.slice ay d.length cy).ownBlock.toList∨(w2.alloc (.cells #[.iface ity ix] 273)).heap.size≤j:=fun j hj=>by
     rcases at2 with h | h
     ·left;rw [←h];exact hj
     ·right;rw [h] at hj;simp at hj;rw [sizeE_alloc];omega
    have hall:=((hiaB.snoc hivB).apart (Y:=v'.ownBlock.toList++(Value.slice ay d.length cy).ownBlock.toList) (fun j hj=>by
     rcases List.mem_append.1 hj with h | h
     ·exact hY j h
     ·exact .inl h)).keeps k3 (fun j hj=>.inl (List.mem_append_right _ hj))
    have hall2:=hall.apart (Y:=v'.ownBlock.toList) (fun j hj=>.inl (List.mem_append_left _ hj))
    have Hall:=hide hall2
    have Hp4:=hide hp4
    have Hl4:=hide hp4.len
    have hsz2:w.heap.size+1≤W2.heap.size:=Nat.le_trans hszB k3.size
    clear hall hall2 hY hiaB hivB hone ownB hp4 hp3 hiv hia own
    go_wp2_with fail
    go_roundw
    ·exact ⟨k,d++[it],vs++[.iface ity ix],us1,Hp4.out,g1.2,by have:=g1.1;omega,by have:=g1.1;rw [List.length_append,List.length_singleton];omega,by rw [List.length_append,List.length_singleton];exact own2,Hall.out,kf,hsz2,Hah.out⟩
    ·rw [Hl4.out,Hlen.out];have:=g1.1;omega
end
section
open Go.RowKit
def eS (s:ByteArray):Value:=.string s
theorem list_eqB (a b:ByteArray):(a.toList == b.toList)=decide (a=b):=by rw [Bool.eq_iff_iff,str_eq,decide_eq_true_iff]
theorem bytes_eqB (a b:ByteArray):(a == b)=decide (a=b):=by rw [beq_toListBytes,list_eqB]
theorem key9:KeyOk Tryz.prog 9 eS where
 check em a w:=MapKept.run_checkKey Tryz.underlying9 (by simp [MapKept.IsKey,eS]) em 9999
 eq a b w:=by
  simp only [Op.equal,Op.maxDepth,eS]
  rw [run_equalIn_string w 9999 9 a b Tryz.underlying9,list_eqB]
 under:=⟨_,Tryz.underlying9,fun a b=>.inr (by simp only [Instr.sameNow,eS];rw [bytes_eqB])⟩
 stays a w:=by simp [Instr.keyThatStays,eS,Instr.sameBits,bytes_eqB]
def numb (ns:List ByteArray):List (ByteArray×Int):=ns.zipIdx.map fun p=>(p.1,(p.2:Int))
def placeB (ns:List ByteArray) (s:ByteArray):Option Nat:=ns.findIdx? fun x=>decide (x=s)
theorem get_numb_from (ns:List ByteArray) (s:ByteArray) (k:Nat):get ((ns.zipIdx k).map fun p=>(p.1,(p.2:Int))) s=(placeB ns s).map (fun i=>((i+k:Nat):Int)):=by
 induction ns generalizing k with
 | nil=>rfl
 | cons x ns ih=>
  rw [List.zipIdx_cons,List.map_cons,get_cons,ih]
  unfold placeB
  rw [List.findIdx?_cons]
  by_cases h:x=s
  ·simp [h]
  ·rw [if_neg h]
   simp only [h,decide_false,Bool.false_eq_true,if_false]
   cases List.findIdx? (fun x=>decide (x=s)) ns with
   | none=>rfl
   | some i=>simp;omega
theorem get_numb (ns:List ByteArray) (s:ByteArray):get (numb ns) s=(placeB ns s).map (fun i:Nat=>(i:Int)):=by
 have:=get_numb_from ns s 0
 exact this
theorem numb_push {ns:List ByteArray} {s:ByteArray} (h:placeB ns s=none):put (numb ns) s (ns.length:Int)=numb (ns++[s]):=by
 unfold put
 rw [get_numb,h]
 simp [numb,List.zipIdx_append]
theorem placeIn_names {A:Type} (l:List (ByteArray×A)) (s:ByteArray):placeB (l.map Prod.fst) s=placeIn l s:=by
 unfold placeB placeIn
 rw [List.findIdx?_map]
 rfl
structure SetV (w:World) (base:Nat) (X:List Nat) (tv mv:Value) (ns:List ByteArray):Prop where
 row:w.ownsRow base 9 1 tv ns.length (ns.map eS)
 rowA:∀ j,tv.ownBlock=some j→j∉X
 map:(mv=.map none∧ns=[])∨∃ r,mv=.map (some r)∧MapIs eS eI w r (numb ns)∧base≤r∧r∉X∧tv.ownBlock≠some r
theorem len_calls {w:World} {B o:Nat} {ns:List ByteArray} {a:Option Addr} {c:Nat} (hc:w.cell? ⟨B,o,none⟩=some (.slice a ns.length c)):Calls Tryz.prog 254 #[.pointer (some ⟨B,o,none⟩)] w fun e w'=>e=.returned (.int .i64 ns.length)∧w' = w:=by
 go_enter Tryz.func254,Tryz.ntmps254
 go_wp2_with fail
 go_ret
 exact ⟨rfl,rfl⟩
theorem look_nil (s:ByteArray) (w:World):(Instr.lookup 137 (.map none) (.string s) true).run Tryz.prog w=.ok (.tuple #[.int .i64 0,.bool false]) w:=by
 have hc:=key9.check true s w
 have hf:=findKey_ok (ev:=eI) key9 s w [] [] rfl
 simp only [eS] at hc hf
 unfold Instr.lookup
 simp only [Sem.run_bind,run_underlying Tryz.underlying137,Result.andThen_ok,Sem.run_pure]
 rw [show (#[]:Array MapEntry).isEmpty=true from rfl,hc]
 simp only [Result.andThen_ok]
 rw [hf]
 simp only [Result.andThen_ok,spot,Sem.run_bind,zero3,Sem.run_pure,if_true]
theorem place_calls {w:World} {B o:Nat} {tv mv:Value} {base:Nat} {X:List Nat} {ns:List ByteArray} (h:SetV w base X tv mv ns) (hc:w.cell? ⟨B,o+1,none⟩=some mv) (s:ByteArray):Calls Tryz.prog 77 #[.pointer (some ⟨B,o,none⟩),.string s] w fun e w'=>e=.returned (.tuple #[.int .i64 ((placeB ns s).getD 0:Nat),.bool (placeB ns s).isSome])∧w' = w:=by
 rcases h.map with ⟨rfl,rfl⟩ | ⟨r,rfl,hm,_⟩
 ·have hl:=look_nil s w
  go_enter Tryz.func77,Tryz.ntmps77
  go_wp2_with fail
  go_ret2
  exact ⟨rfl,rfl⟩
 ·have hl:=run_look (P:=Tryz.prog) Tryz.underlying137 key9 (z:=.int .i64 0) zero3 hm s true
  rw [get_numb] at hl
  simp only [eS,if_true] at hl
  cases hp:placeB ns s with
  | none=>
   rw [hp] at hl
   simp only [Option.map_none,Option.getD_none,Option.isSome_none] at hl
   go_enter Tryz.func77,Tryz.ntmps77
   go_wp2_with fail
   go_ret2
   exact ⟨rfl,rfl⟩
  | some i=>
   rw [hp] at hl
   simp only [Option.map_some,Option.getD_some,Option.isSome_some,eI] at hl
   go_enter Tryz.func77,Tryz.ntmps77
   go_wp2_with fail
   go_ret2
   exact ⟨rfl,rfl⟩
theorem SetV.keeps {w w':World} {base:Nat} {X T:List Nat} {tv mv:Value} {ns:List ByteArray} (h:SetV w base X tv mv ns) (k:Keeps T w w') (hT:∀ j∈T,j∈X∨j<base∨w.heap.size≤j):SetV w' base X tv mv ns:=by
 refine ⟨ownsRow_kept h.row k (fun j hj hjT=>?_),h.rowA,?_⟩
 ·have:=ownE_lt h.row j hj
  rcases hT j hjT with h' | h' | h'
  ·exact h.rowA j hj h'
  ·omega
  ·omega
 ·rcases h.map with hm | ⟨r,h1,h2,h3,h4,h5⟩
  ·exact .inl hm
  ·refine .inr ⟨r,h1,h2.of_heap (k.block r h2.lt (fun hjT=>?_)),h3,h4,h5⟩
   rcases hT r hjT with h' | h' | h'
   ·exact h4 h'
   ·omega
   ·have:=h2.lt;omega
end
section
open Go.RowKit
theorem toList_beq (a:ByteArray) (l:List UInt8):(a.toList == l)=decide (a=⟨⟨l⟩⟩):=by
 rw [Bool.eq_iff_iff,str_lit,decide_eq_true_iff]
end
section
open Go.RowKit
theorem info9:(Tryz.prog.info? 9).map (fun i=>(i.zero,i.size,i.bytes))=some (some (.string ⟨#[]⟩),1,16):=by kernel_rfl
theorem ownE_succ {W:World} {base:Nat} {e:TypeId} {size:Nat} {v:Value} {k:Nat} {xs:List Value} (h:W.ownsRow base e size v (k+1) xs):∃ g cap,v=.slice (some ⟨g,0,none⟩) (k+1) cap:=by
 rcases h.2 with ⟨_,h0⟩ | ⟨g,cap,_,rfl,_⟩
 ·omega
 ·exact ⟨g,cap,rfl⟩
theorem ownE_cap {W:World} {base:Nat} {e:TypeId} {size g n cap:Nat} {xs:List Value} (h:W.ownsRow base e size (.slice (some ⟨g,0,none⟩) n cap) n xs):n≤cap:=by
 rcases h.2 with ⟨h0,_⟩ | ⟨g',cap',cur,hv,hg,hh,hn,hcap,hsz,htake⟩
 ·cases h0
 ·cases hv;exact hn
end
end Go.Proofs.YtgjomknpjigkhaaGreatDoor
