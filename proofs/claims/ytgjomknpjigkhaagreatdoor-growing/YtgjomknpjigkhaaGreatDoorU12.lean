import Derived.Test.YtgjomknpjigkhaaGreatDoorU10
import Derived.Test.YtgjomknpjigkhaaGreatDoorU11
import Derived.Laws.StructEq
import Derived.Deep.DeepCutAuto
namespace Go.Proofs.YtgjomknpjigkhaaGreatDoor
open Go.Proofs.Tryz
set_option maxRecDepth 100000
set_option maxHeartbeats 4000000
section
open Go.RowKit
def zQI (w:World) (base:Nat) (X:List Nat):vQB→Value→Prop
 | .dom n z,v=>v=.iface 321 (.agg #[.string (eQA n.g),.string (txt n.g),.int .i64 n.line,.string (eQA z.g),.string (txt z.g),.int .i64 z.line])
 | .rel n cs,v=>∃ cv,v=.iface 325 (.agg #[.string (eQA n.g),.string (txt n.g),.int .i64 n.line,cv])∧w.ownsRow base 129 3 cv cs.length (hQD cs)∧∀ j,cv.ownBlock=some j→j∉X
 | .clause a ls,v=>∃ hv lv cs,v=.iface 330 (.agg #[.string (eQA a.name.g),.string (txt a.name.g),.int .i64 a.name.line,hv,lv])∧w.ownsRow base 129 3 hv a.terms.length (hQD a.terms)∧(∀ j,hv.ownBlock=some j→j∉X)∧w.ownsRow base 353 5 lv ls.length cs∧(∀ j,lv.ownBlock=some j→j∉X)∧vQC w base X ls cs
theorem zQI.keeps {w w':World} {base:Nat} {X:List Nat} {i:vQB} {v:Value} {T:List Nat} (h:zQI w base X i v) (k:aQA T w w') (hT:∀ j∈T,j∈X∨j<base∨w.heap.size≤j):zQI w' base X i v:=by
 have own:∀ {e:TypeId} {size n:Nat} {u:Value} {xs:List Value},w.ownsRow base e size u n xs→(∀ j,u.ownBlock=some j→j∉X)→w'.ownsRow base e size u n xs:=fun h hx=>bQA h k (fun j hj hjT=>by
  have:=qQA h j hj;rcases hT j hjT with h' | h' | h'
  ·exact hx j hj h'
  ·omega
  ·omega)
 cases i with
 | dom n z=>exact h
 | rel n cs=>
  obtain ⟨cv,h1,h2,h3⟩:=h;exact ⟨cv,h1,own h2 h3,h3⟩
 | clause a ls=>
  obtain ⟨hv,lv,cs,h1,h2,h3,h4,h5,h6⟩:=h;exact ⟨hv,lv,cs,h1,own h2 h3,h3,own h4 h5,h5,h6.keeps k hT⟩
theorem zQI.apart {w:World} {base:Nat} {X Y:List Nat} {i:vQB} {v:Value} (h:zQI w base X i v) (hY:∀ j∈Y,j∈X∨w.heap.size≤j):zQI w base Y i v:=by
 have ap:∀ {e:TypeId} {size n:Nat} {u:Value} {xs:List Value},w.ownsRow base e size u n xs→(∀ j,u.ownBlock=some j→j∉X)→∀ j,u.ownBlock=some j→j∉Y:=fun h hx j hj hjY=>by
  have:=qQA h j hj;rcases hY j hjY with h' | h'
  ·exact hx j hj h'
  ·omega
 cases i with
 | dom n z=>exact h
 | rel n cs=>
  obtain ⟨cv,h1,h2,h3⟩:=h;exact ⟨cv,h1,h2,ap h2 h3⟩
 | clause a ls=>
  obtain ⟨hv,lv,cs,h1,h2,h3,h4,h5,h6⟩:=h;exact ⟨hv,lv,cs,h1,h2,ap h2 h3,h4,ap h4 h5,h6.apart hY⟩
theorem vQC.above {w:World} {base:Nat} {X Y:List Nat} {ls:List LitI} {cs:List Value} (h:vQC w base X ls cs) (hY:∀ j∈Y,j<base):vQC w base Y ls cs:=by
 induction ls generalizing cs with
 | nil=>exact h
 | cons l ls ih=>
  obtain ⟨v,rest,h1,h2,h3,h4⟩:=h;exact ⟨v,rest,h1,h2,fun j hj hjY=>by have:=(hQA h2 j hj).1;have:=hY j hjY;omega,ih h4⟩
theorem zQI.above {w:World} {base:Nat} {X Y:List Nat} {i:vQB} {v:Value} (h:zQI w base X i v) (hY:∀ j∈Y,j<base):zQI w base Y i v:=by
 have ap:∀ {e:TypeId} {size n:Nat} {u:Value} {xs:List Value},w.ownsRow base e size u n xs→∀ j,u.ownBlock=some j→j∉Y:=fun h j hj hjY=>by
  have:=(hQA h j hj).1;have:=hY j hjY;omega
 cases i with
 | dom n z=>exact h
 | rel n cs=>
  obtain ⟨cv,h1,h2,h3⟩:=h;exact ⟨cv,h1,h2,ap h2⟩
 | clause a ls=>
  obtain ⟨hv,lv,cs,h1,h2,h3,h4,h5,h6⟩:=h;exact ⟨hv,lv,cs,h1,h2,ap h2,h4,ap h4,h6.above hY⟩
theorem zQI.mono {w:World} {base base':Nat} {X:List Nat} {i:vQB} {v:Value} (h:zQI w base X i v) (hb:base'≤base):zQI w base' X i v:=by
 cases i with
 | dom n z=>exact h
 | rel n cs=>
  obtain ⟨cv,h1,h2,h3⟩:=h;exact ⟨cv,h1,sQA h2 hb,h3⟩
 | clause a ls=>
  obtain ⟨hv,lv,cs,h1,h2,h3,h4,h5,h6⟩:=h;exact ⟨hv,lv,cs,h1,sQA h2 hb,h3,sQA h4 hb,h5,h6.mono hb⟩
def ItemTo (base b g:Nat) (r:Except Nat (vQB×List Tn)) (e:Ending) (w':World):Prop:=match r with
 | .ok (i,us)=>∃ v,e=.returned v∧zQI w' base [] i v∧v.oneCell' = true∧PAt w' b g us
 | .error l=>e=gQC 5 l
theorem item_dom {w:World} {b g:Nat} {us:List Tn} (h:PAt w b g us) (he:bQC us) (hl:us.length≤1000000) (hs:sees isDomG us=true):Calls prog 199 #[.pointer (some ⟨b,0,none⟩)] w fun e w'=>ItemTo w.heap.size b g (sQI us) e w'∧aQA [b] w w':=by
 have hT:=hide (tQB kp_dom rfl h he hl);have g1:=qQB dom_noFin he hs;have hlow:=h.lt;rw [hs] at hT;clear h;unfold sQI;rw [if_pos hs];cases hr1:cQC fQC us.tail with
 | error l=>
  go_enter func199,ntmps199
  go_wp2_with fail
  refine hT.out.mono ?_;rintro e w1 ⟨rfl,hp1,k1⟩;have h2:=hide (tQA (us:=us.tail) tQH rfl hp1 g1.2 (by have:=g1.1;omega));rw [hr1] at h2;go_wp2_with fail
  refine h2.out.mono ?_;rintro e w2 ⟨rfl,k2⟩;exact ⟨rfl,rfl,k1.trans k2⟩
 | ok q1=>
  obtain ⟨n,us1⟩:=q1;have g2:=(oQA lQC g1.2 hr1).1;simp only;cases hr2:cQC isIntG us1 with
  | error l=>
   go_enter func199,ntmps199
   go_wp2_with fail
   refine hT.out.mono ?_;rintro e w1 ⟨rfl,hp1,k1⟩;have h2:=hide (tQA (us:=us.tail) tQH rfl hp1 g1.2 (by have:=g1.1;omega));rw [hr1] at h2;go_wp2_with fail
   refine h2.out.mono ?_;rintro e w2 ⟨⟨rfl,hp2⟩,k2⟩;have h3:=hide (tQA kp_int rfl hp2 g2.2 (by have:=g1.1;have:=g2.1;omega));rw [hr2] at h3;go_wp2_with fail
   refine h3.out.mono ?_;rintro e w3 ⟨rfl,k3⟩;exact ⟨rfl,rfl,(k1.trans k2).trans k3⟩
  | ok q2=>
   obtain ⟨z,us2⟩:=q2;have g3:=(oQA int_noFin g2.2 hr2).1;simp only;cases hr3:cQC isSemiG us2 with
   | error l=>
    go_enter func199,ntmps199
    go_wp2_with fail
    refine hT.out.mono ?_;rintro e w1 ⟨rfl,hp1,k1⟩;have h2:=hide (tQA (us:=us.tail) tQH rfl hp1 g1.2 (by have:=g1.1;omega));rw [hr1] at h2;go_wp2_with fail
    refine h2.out.mono ?_;rintro e w2 ⟨⟨rfl,hp2⟩,k2⟩;have h3:=hide (tQA kp_int rfl hp2 g2.2 (by have:=g1.1;have:=g2.1;omega));rw [hr2] at h3;go_wp2_with fail
    refine h3.out.mono ?_;rintro e w3 ⟨⟨rfl,hp3⟩,k3⟩;have h4:=hide (tQA kp_semi rfl (wQC w3 hp3 (.cells #[.string (eQA n.g),.string (txt n.g),.int .i64 n.line,.string (eQA z.g),.string (txt z.g),.int .i64 z.line] 321)) g3.2 (by have:=g1.1;have:=g2.1;have:=g3.1;omega));rw [hr3] at h4;have kA:=aQA.alloc [b] w3 (.cells #[.string (eQA n.g),.string (txt n.g),.int .i64 n.line,.string (eQA z.g),.string (txt z.g),.int .i64 z.line] 321);unfold tokV;go_wp2_with fail
    refine h4.out.mono ?_;rintro e w4 ⟨rfl,k4⟩;exact ⟨rfl,rfl,(((k1.trans k2).trans k3).trans kA).trans k4⟩
   | ok q3=>
    obtain ⟨t3,us3⟩:=q3;go_enter func199,ntmps199
    go_wp2_with fail
    refine hT.out.mono ?_;rintro e w1 ⟨rfl,hp1,k1⟩;have h2:=hide (tQA (us:=us.tail) tQH rfl hp1 g1.2 (by have:=g1.1;omega));rw [hr1] at h2;go_wp2_with fail
    refine h2.out.mono ?_;rintro e w2 ⟨⟨rfl,hp2⟩,k2⟩;have h3:=hide (tQA kp_int rfl hp2 g2.2 (by have:=g1.1;have:=g2.1;omega));rw [hr2] at h3;go_wp2_with fail
    refine h3.out.mono ?_;rintro e w3 ⟨⟨rfl,hp3⟩,k3⟩;have h4:=hide (tQA kp_semi rfl (wQC w3 hp3 (.cells #[.string (eQA n.g),.string (txt n.g),.int .i64 n.line,.string (eQA z.g),.string (txt z.g),.int .i64 z.line] 321)) g3.2 (by have:=g1.1;have:=g2.1;have:=g3.1;omega));rw [hr3] at h4;have kA:=aQA.alloc [b] w3 (.cells #[.string (eQA n.g),.string (txt n.g),.int .i64 n.line,.string (eQA z.g),.string (txt z.g),.int .i64 z.line] 321);have hA:=cQA.new w3 #[.string (eQA n.g),.string (txt n.g),.int .i64 n.line,.string (eQA z.g),.string (txt z.g),.int .i64 z.line] 321;have hb3:=hp3.lt;unfold tokV;go_wp2_with fail
    refine h4.out.mono ?_;rintro e w4 ⟨⟨rfl,hp4⟩,k4⟩;have hA4:=hA.keeps k4 (by simp;omega);have d0:=hA4.cell 0;have d1:=hA4.cell 1;have d2:=hA4.cell 2;have d3:=hA4.cell 3;have d4:=hA4.cell 4;have d5:=hA4.cell 5;clear hA4 hA;go_wp2_with fail
    go_ret
    exact ⟨⟨_,rfl,rfl,rfl,hp4⟩,(((k1.trans k2).trans k3).trans kA).trans k4⟩
theorem item_rel {w:World} {b g:Nat} {us:List Tn} (h:PAt w b g us) (he:bQC us) (hl:us.length≤1000000) (hs0:sees isDomG us=false) (hs:sees isRelG us=true):Calls prog 199 #[.pointer (some ⟨b,0,none⟩)] w fun e w'=>ItemTo w.heap.size b g (sQI us) e w'∧aQA [b] w w':=by
 have hT0:=hide (tQB kp_dom rfl h he hl);have g1:=qQB rel_noFin he hs;have hlow:=h.lt;rw [hs0] at hT0;clear h;unfold sQI;rw [if_neg (by rw [hs0];decide),if_pos hs];cases hr1:cQC fQC us.tail with
 | error l=>
  go_enter func199,ntmps199
  go_wp2_with fail
  refine hT0.out.mono ?_;rintro e w0 ⟨rfl,hp0,k0⟩;have hT:=hide (tQB (us:=us) kp_rel rfl hp0 he hl);rw [hs] at hT;go_wp2_with fail
  refine hT.out.mono ?_;rintro e w1 ⟨rfl,hp1,k1⟩;have h2:=hide (tQA (us:=us.tail) tQH rfl hp1 g1.2 (by have:=g1.1;omega));rw [hr1] at h2;go_wp2_with fail
  refine h2.out.mono ?_;rintro e w2 ⟨rfl,k2⟩;exact ⟨rfl,rfl,(k0.trans k1).trans k2⟩
 | ok q1=>
  obtain ⟨n,us1⟩:=q1;have g2:=(oQA lQC g1.2 hr1).1;simp only;cases hr2:aQH fQC us1 with
  | error l=>
   go_enter func199,ntmps199
   go_wp2_with fail
   refine hT0.out.mono ?_;rintro e w0 ⟨rfl,hp0,k0⟩;have hT:=hide (tQB (us:=us) kp_rel rfl hp0 he hl);rw [hs] at hT;go_wp2_with fail
   refine hT.out.mono ?_;rintro e w1 ⟨rfl,hp1,k1⟩;have h2:=hide (tQA (us:=us.tail) tQH rfl hp1 g1.2 (by have:=g1.1;omega));rw [hr1] at h2;go_wp2_with fail
   refine h2.out.mono ?_;rintro e w2 ⟨⟨rfl,hp2⟩,k2⟩;have h3:=hide (qQI hp2 g2.2 (by have:=g1.1;have:=g2.1;omega));rw [hr2] at h3;go_wp2_with fail
   refine h3.out.mono ?_;rintro e w3 ⟨rfl,k3⟩;exact ⟨rfl,rfl,((k0.trans k1).trans k2).trans k3⟩
  | ok q2=>
   obtain ⟨cs,us2⟩:=q2;have g3:=listG_goes lQC g2.2 hr2;simp only;cases hr3:cQC isSemiG us2 with
   | error l=>
    go_enter func199,ntmps199
    go_wp2_with fail
    refine hT0.out.mono ?_;rintro e w0 ⟨rfl,hp0,k0⟩;have hT:=hide (tQB (us:=us) kp_rel rfl hp0 he hl);rw [hs] at hT;go_wp2_with fail
    refine hT.out.mono ?_;rintro e w1 ⟨rfl,hp1,k1⟩;have h2:=hide (tQA (us:=us.tail) tQH rfl hp1 g1.2 (by have:=g1.1;omega));rw [hr1] at h2;go_wp2_with fail
    refine h2.out.mono ?_;rintro e w2 ⟨⟨rfl,hp2⟩,k2⟩;have h3:=hide (qQI hp2 g2.2 (by have:=g1.1;have:=g2.1;omega));rw [hr2] at h3;go_wp2_with fail
    refine h3.out.mono ?_;rintro e w3 ⟨⟨cv,rfl,own,hp3⟩,k3⟩;obtain ⟨cva,cvc,rfl⟩:=fQA own;have h4:=hide (tQA kp_semi rfl (wQC w3 hp3 (.cells #[.string (eQA n.g),.string (txt n.g),.int .i64 n.line,.slice cva cs.length cvc] 325)) g3.2 (by have:=g1.1;have:=g2.1;have:=g3.1;omega));rw [hr3] at h4;have kA:=aQA.alloc [b] w3 (.cells #[.string (eQA n.g),.string (txt n.g),.int .i64 n.line,.slice cva cs.length cvc] 325);unfold tokV;go_wp2_with fail
    refine h4.out.mono ?_;rintro e w4 ⟨rfl,k4⟩;exact ⟨rfl,rfl,((((k0.trans k1).trans k2).trans k3).trans kA).trans k4⟩
   | ok q3=>
    obtain ⟨t3,us3⟩:=q3;go_enter func199,ntmps199
    go_wp2_with fail
    refine hT0.out.mono ?_;rintro e w0 ⟨rfl,hp0,k0⟩;have hT:=hide (tQB (us:=us) kp_rel rfl hp0 he hl);rw [hs] at hT;go_wp2_with fail
    refine hT.out.mono ?_;rintro e w1 ⟨rfl,hp1,k1⟩;have h2:=hide (tQA (us:=us.tail) tQH rfl hp1 g1.2 (by have:=g1.1;omega));rw [hr1] at h2;go_wp2_with fail
    refine h2.out.mono ?_;rintro e w2 ⟨⟨rfl,hp2⟩,k2⟩;have h3:=hide (qQI hp2 g2.2 (by have:=g1.1;have:=g2.1;omega));rw [hr2] at h3;go_wp2_with fail
    refine h3.out.mono ?_;rintro e w3 ⟨⟨cv,rfl,own,hp3⟩,k3⟩;obtain ⟨cva,cvc,rfl⟩:=fQA own;have h4:=hide (tQA kp_semi rfl (wQC w3 hp3 (.cells #[.string (eQA n.g),.string (txt n.g),.int .i64 n.line,.slice cva cs.length cvc] 325)) g3.2 (by have:=g1.1;have:=g2.1;have:=g3.1;omega));rw [hr3] at h4;have kA:=aQA.alloc [b] w3 (.cells #[.string (eQA n.g),.string (txt n.g),.int .i64 n.line,.slice cva cs.length cvc] 325);have hA:=cQA.new w3 #[.string (eQA n.g),.string (txt n.g),.int .i64 n.line,.slice cva cs.length cvc] 325;have hb3:=hp3.lt;have hsz:w.heap.size≤w2.heap.size:=by have:=k0.size;have:=k1.size;have:=k2.size;omega
    unfold tokV;go_wp2_with fail
    refine h4.out.mono ?_;rintro e w4 ⟨⟨rfl,hp4⟩,k4⟩;have hA4:=hA.keeps k4 (by simp;omega);have d0:=hA4.cell 0;have d1:=hA4.cell 1;have d2:=hA4.cell 2;have d3:=hA4.cell 3;have hown4:=sQA (bQA own (kA.trans k4) (fun j hj hT=>by have:=(hQA own j hj).1;have e:j=b:=(by simpa using hT);omega)) hsz;have Hown4:=hide hown4;clear hA4 hA own hown4;go_wp2_with fail
    go_ret
    exact ⟨⟨_,rfl,⟨_,rfl,Hown4.out,by simp⟩,rfl,hp4⟩,((((k0.trans k1).trans k2).trans k3).trans kA).trans k4⟩
theorem item_clause {w:World} {b g:Nat} {us:List Tn} (h:PAt w b g us) (he:bQC us) (hl:us.length≤1000000) (hs0:sees isDomG us=false) (hs:sees isRelG us=false):Calls prog 199 #[.pointer (some ⟨b,0,none⟩)] w fun e w'=>ItemTo w.heap.size b g (sQI us) e w'∧aQA [b] w w':=by
 have hT0:=hide (tQB kp_dom rfl h he hl);have hlow:=h.lt;rw [hs0] at hT0;clear h;have hi:sQI us=(match clauseG us with
   | .error l=>.error l
   | .ok (q,vs)=>.ok (.clause q.1 q.2,vs)):=by
  unfold sQI clauseG;rw [if_neg (by rw [hs0];decide),if_neg (by rw [hs];decide)];cases gQI us with
  | error l=>rfl
  | ok q=>
   obtain ⟨a,vs⟩:=q;simp only;cases eQJ vs with
   | error l=>rfl
   | ok q=>rfl
 rw [hi];cases hr1:clauseG us with
 | error l=>
  go_enter func199,ntmps199
  go_wp2_with fail
  refine hT0.out.mono ?_;rintro e w0 ⟨rfl,hp0,k0⟩;have hT:=hide (tQB (us:=us) kp_rel rfl hp0 he hl);rw [hs] at hT;go_wp2_with fail
  refine hT.out.mono ?_;rintro e w1 ⟨rfl,hp1,k1⟩;have h2:=hide (clause_calls (us:=us) hp1 he hl);rw [hr1] at h2;go_wp2_with fail
  refine h2.out.mono ?_;rintro e w2 ⟨rfl,k2⟩;exact ⟨rfl,rfl,(k0.trans k1).trans k2⟩
 | ok q1=>
  obtain ⟨⟨a,ls⟩,us1⟩:=q1;go_enter func199,ntmps199
  go_wp2_with fail
  refine hT0.out.mono ?_;rintro e w0 ⟨rfl,hp0,k0⟩;have hT:=hide (tQB (us:=us) kp_rel rfl hp0 he hl);rw [hs] at hT;go_wp2_with fail
  refine hT.out.mono ?_;rintro e w1 ⟨rfl,hp1,k1⟩;have h2:=hide (clause_calls (us:=us) hp1 he hl);rw [hr1] at h2;go_wp2_with fail
  refine h2.out.mono ?_;rintro e w2 ⟨⟨hv,lv,cs,rfl,own1,_,own2,hla,hp2⟩,k2⟩;have hsz:w.heap.size≤w1.heap.size:=by have:=k0.size;have:=k1.size;omega
  go_wp2_with fail
  go_ret
  exact ⟨⟨_,rfl,⟨hv,lv,cs,rfl,sQA own1 hsz,by simp,sQA own2 hsz,by simp,(hla.mono hsz).apart (fun j hj=>by cases hj)⟩,rfl,hp2⟩,(k0.trans k1).trans k2⟩
theorem item_calls {w:World} {b g:Nat} {us:List Tn} (h:PAt w b g us) (he:bQC us) (hl:us.length≤1000000):Calls prog 199 #[.pointer (some ⟨b,0,none⟩)] w fun e w'=>ItemTo w.heap.size b g (sQI us) e w'∧aQA [b] w w':=by
 cases h1:sees isDomG us with
 | true=>exact item_dom h he hl h1
 | false=>
  cases h2:sees isRelG us with
  | true=>exact item_rel h he hl h1 h2
  | false=>exact item_clause h he hl h1 h2
end
section
open Go.RowKit
theorem info273:(prog.info? 273).map (fun i=>(i.zero,i.size,i.bytes))=some (some Value.nilIface,1,16):=by kernel_rfl
def rQC (w:World) (base:Nat) (X:List Nat):List vQB→List Value→Prop
 | [],vs=>vs=[]
 | i :: is,vs=>∃ v rest,vs=v :: rest∧zQI w base X i v∧rQC w base X is rest
theorem rQC.keeps {w w':World} {base:Nat} {X:List Nat} {is:List vQB} {vs:List Value} {T:List Nat} (h:rQC w base X is vs) (k:aQA T w w') (hT:∀ j∈T,j∈X∨j<base∨w.heap.size≤j):rQC w' base X is vs:=by
 induction is generalizing vs with
 | nil=>exact h
 | cons i is ih=>
  obtain ⟨v,rest,h1,h2,h3⟩:=h;exact ⟨v,rest,h1,h2.keeps k hT,ih h3⟩
theorem rQC.apart {w:World} {base:Nat} {X Y:List Nat} {is:List vQB} {vs:List Value} (h:rQC w base X is vs) (hY:∀ j∈Y,j∈X∨w.heap.size≤j):rQC w base Y is vs:=by
 induction is generalizing vs with
 | nil=>exact h
 | cons i is ih=>
  obtain ⟨v,rest,h1,h2,h3⟩:=h;exact ⟨v,rest,h1,h2.apart hY,ih h3⟩
theorem rQC.snoc {w:World} {base:Nat} {X:List Nat} {is:List vQB} {vs:List Value} (h:rQC w base X is vs) {i:vQB} {v:Value} (h2:zQI w base X i v):rQC w base X (is++[i]) (vs++[v]):=by
 induction is generalizing vs with
 | nil=>
  have:vs=[]:=h;subst this;exact ⟨v,[],rfl,h2,rfl⟩
 | cons x is ih=>
  obtain ⟨u,rest,h1,k2,k3⟩:=h;exact ⟨u,rest++[v],by rw [h1];rfl,k2,ih k3⟩
theorem rQC.mono {w:World} {base base':Nat} {X:List Nat} {is:List vQB} {vs:List Value} (h:rQC w base X is vs) (hb:base'≤base):rQC w base' X is vs:=by
 induction is generalizing vs with
 | nil=>exact h
 | cons i is ih=>
  obtain ⟨v,rest,h1,h2,h3⟩:=h;exact ⟨v,rest,h1,h2.mono hb,ih h3⟩
theorem zQI.iface {w:World} {base:Nat} {X:List Nat} {i:vQB} {v:Value} (h:zQI w base X i v):∃ t x,v=.iface t x:=by
 cases i with
 | dom n z=>exact ⟨_,_,h⟩
 | rel n cs=>obtain ⟨cv,h1,_⟩:=h;exact ⟨_,_,h1⟩
 | clause a ls=>obtain ⟨hv,lv,cs,h1,_⟩:=h;exact ⟨_,_,h1⟩
def ParseTo (base:Nat) (r:Except Nat (List vQB)) (e:Ending) (w':World):Prop:=match r with
 | .ok is=>∃ v vs,e=.returned v∧w'.ownsRow base 273 1 v is.length vs∧rQC w' base v.ownBlock.toList is vs
 | .error l=>e=gQC 5 l
def aheadI (d:List vQB):Except Nat (List vQB)→Except Nat (List vQB)
 | .ok r=>.ok (d++r)
 | .error l=>.error l
theorem parse_calls {w:World} {g c:Nat} {toks:List Tn} (ht:PTok w g 0 toks) (hc:toks.length≤c) (he:bQC toks) (hl:toks.length≤1000000):Calls prog 135 #[.slice (some ⟨g,0,none⟩) toks.length c] w fun e w'=>ParseTo w.heap.size (zQC toks.length toks) e w'∧aQA [] w w':=by
 obtain ⟨i0,hi0,hz0,hz1,hz2⟩:=info_parts info273;have hglt:g<w.heap.size:=by obtain ⟨cs,h,_⟩:=ht;exact h.lt
 have kA:=aQA.alloc [] w (.cells #[.slice (some ⟨g,0,none⟩) toks.length c] 276);have hP0:PAt (w.alloc (.cells #[.slice (some ⟨g,0,none⟩) toks.length c] 276)) w.heap.size g toks:=⟨0,c,cQA.new w _ 276,hc,ht.keeps kA (by simp),by omega⟩;have HP0:=hide hP0;generalize hR:zQC toks.length toks=R;have HR:=hide hR;clear hP0 hR;go_enter func135,ntmps135
 go_wp2_with fail
 go_loopw [4] (fun y wr=>∃ (k:Nat) (d:List vQB) (vs:List Value) (xs:List Tn),PAt wr w.heap.size g xs∧bQC xs∧xs.length≤k∧d.length+xs.length≤toks.length∧wr.ownsRow (w.heap.size+1) 273 1 y d.length vs∧rQC wr (w.heap.size+1) y.ownBlock.toList d vs∧aQA [] w wr∧w.heap.size+1≤wr.heap.size∧aheadI d (zQC k xs)=R) (fun _ wr=>sLen (wr.cell? ⟨w.heap.size,0,none⟩))
 case atStart=>exact ⟨toks.length,[],[],toks,HP0.out,he,Nat.le_refl _,by simp,World.ownsRow_nil ..,rfl,kA,by rw [dQA];omega,by rw [←HR.out];cases zQC toks.length toks <;> rfl⟩
 case round=>
  obtain ⟨k,d,vs,xs,hpx,hex,hkx,hdx,own,hia,kr,hsz,hres⟩:=hrel;have hlen:=hpx.len;obtain ⟨k,rfl⟩:∃ k',k=k' + 1:=by obtain ⟨t,q,rfl⟩:=hex.cons;simp at hkx;exact ⟨k - 1,by omega⟩
  have hne:xs≠[]:=by obtain ⟨_,_,h⟩:=hex.cons;rw [h];simp
  have hS:=hide (sees_calls kp_fin hpx hne (by omega));have hI:=hide (item_calls hpx hex (by omega));have Hpx:=hide hpx;have Hlen:=hide hlen;rw [zQC] at hres;clear HR HP0 hpx hlen;cases hs:sees isFinG xs with
  | true=>
   rw [hs,if_pos rfl] at hres;rw [hs] at hS;have Hres:=hide hres;clear hres;go_wp2_with fail
   refine hS.out.mono ?_;rintro e w1 ⟨rfl,rfl⟩;go_wp2_with fail
   go_ret
   refine ⟨?_,kr⟩;rw [←Hres.out];show ParseTo w.heap.size (.ok (d++[])) _ _;rw [List.append_nil];exact ⟨_,vs,rfl,sQA own (by omega),hia.mono (by omega)⟩
  | false=>
   rw [hs,if_neg (by decide)] at hres;rw [hs] at hS;cases hr:sQI xs with
   | error l=>
    rw [hr] at hres hI;have Hres:=hide hres;clear hres;go_wp2_with fail
    refine hS.out.mono ?_;rintro e w1 ⟨rfl,rfl⟩;go_wp2_with fail
    refine hI.out.mono ?_;rintro e w2 ⟨rfl,k2⟩;refine ⟨rfl,?_,kr.trans_new k2 (by simp)⟩;rw [←Hres.out];rfl
   | ok q=>
    obtain ⟨it,us1⟩:=q;rw [hr] at hres hI;have g1:=itemG_goes hex hr;have hah:aheadI (d++[it]) (zQC k us1)=R:=by
     rw [←hres];show _=aheadI d (match zQC k us1 with
      | .error l=>Except.error l
      | .ok r=>.ok (it :: r))
     cases zQC k us1 with
     | error l=>rfl
     | ok q=>simp [aheadI]
    have Hah:=hide hah;clear hres hah;obtain ⟨ay,cy,rfl⟩:=fQA own;go_wp2_with fail
    refine hS.out.mono ?_;rintro e w1 ⟨rfl,rfl⟩;go_wp2_with fail
    refine hI.out.mono ?_;rintro e w2 ⟨⟨iv,rfl,hiv,hone1,hp2⟩,k2⟩;obtain ⟨ity,ix,rfl⟩:=hiv.iface;have hlv:∀ j,(Value.slice ay d.length cy).ownBlock=some j→w.heap.size+1≤j∧j<w1.heap.size:=fun j hj=>qQA own j hj;have kB:=k2.trans (aQA.alloc [w.heap.size] w2 (.cells #[.iface ity ix] 273));have ownB:=bQA own kB (fun j hj h=>by have:=hlv j hj;have e:j=w.heap.size:=(by simpa using h);omega);have hiaB:=hia.keeps kB (fun j hj=>by have e:j=w.heap.size:=(by simpa using hj);omega);have hivB:zQI (w2.alloc (.cells #[.iface ity ix] 273)) (w.heap.size+1) (Value.slice ay d.length cy).ownBlock.toList it (.iface ity ix):=((hiv.keeps (aQA.alloc [] w2 _) (by simp)).above (fun j hj=>by have:=hlv j (by simpa using hj);omega)).mono hsz;have hp3:=wQC w2 hp2 (.cells #[.iface ity ix] 273);have hone:∀ (j:Nat) (u:Value),[Value.iface ity ix][j]?=some u→(w2.alloc (.cells #[.iface ity ix] 273)).cell? ((⟨w2.heap.size,0,none⟩:Addr).add j)=some u:=by
     intro j u hu;rw [Addr.add_lit,Nat.zero_add,(cQA.new w2 #[.iface ity ix] 273).cell];match j with
     | 0=>simpa using hu
     | j+1=>simp at hu
    have hszB:w.heap.size+1≤(w2.alloc (.cells #[.iface ity ix] 273)).heap.size:=by rw [dQA];have:=k2.size;omega
    go_wp2_with (at_builtin;refine wpList_append_own_at _ rfl _ _ 203 rfl (w.heap.size+1) 273 i0 Value.nilIface 1 16 underlying203 hi0 hz0 hz1 hz2 rfl (by decide) _ d.length vs rfl ownB ⟨w2.heap.size,0,none⟩ 1 1 [.iface ity ix] rfl (by simp) hone (by simp [Value.oneCell']) (by unfold maxLen;omega) (by omega) hszB ?_)
    intro v' W2 own2 grow2 nil2 at2;have k3:=grownBy_keeps' grow2 (Value.slice ay d.length cy).ownBlock.toList (fun r e=>.inl (by simp [e]));have kf:aQA [] w W2:=(kr.trans_new kB (by simp)).trans_new k3 fun j hj=>.inr (by have:=hlv j (by simpa using hj);omega);have hp4:=hp3.keeps k3 (fun hT=>by have:=hlv _ (by simpa using hT);omega) (fun hT=>by have:=hlv _ (by simpa using hT);omega);have hY:∀ j∈v'.ownBlock.toList,j∈(Value.slice ay d.length cy).ownBlock.toList∨(w2.alloc (.cells #[.iface ity ix] 273)).heap.size≤j:=fun j hj=>by
     rcases at2 with h | h
     ·left;rw [←h];exact hj
     ·right;rw [h] at hj;simp at hj;rw [dQA];omega
    have hall:=((hiaB.snoc hivB).apart (Y:=v'.ownBlock.toList++(Value.slice ay d.length cy).ownBlock.toList) (fun j hj=>by
     rcases List.mem_append.1 hj with h | h
     ·exact hY j h
     ·exact .inl h)).keeps k3 (fun j hj=>.inl (List.mem_append_right _ hj))
    have hall2:=hall.apart (Y:=v'.ownBlock.toList) (fun j hj=>.inl (List.mem_append_left _ hj));have Hall:=hide hall2;have Hp4:=hide hp4;have Hl4:=hide hp4.len;have hsz2:w.heap.size+1≤W2.heap.size:=Nat.le_trans hszB k3.size;clear hall hall2 hY hiaB hivB hone ownB hp4 hp3 hiv hia own;go_wp2_with fail
    go_roundw
    ·exact ⟨k,d++[it],vs++[.iface ity ix],us1,Hp4.out,g1.2,by have:=g1.1;omega,by have:=g1.1;rw [List.length_append,List.length_singleton];omega,by rw [List.length_append,List.length_singleton];exact own2,Hall.out,kf,hsz2,Hah.out⟩
    ·rw [Hl4.out,Hlen.out];have:=g1.1;omega
end
section
open Go.RowKit
def eS (s:ByteArray):Value:=.string s
theorem list_eqB (a b:ByteArray):(a.toList == b.toList)=decide (a=b):=by rw [Bool.eq_iff_iff,str_eq,decide_eq_true_iff]
theorem bytes_eqB (a b:ByteArray):(a == b)=decide (a=b):=by rw [beq_toListBytes,list_eqB]
theorem key9:KeyOk prog 9 eS where
 check em a w:=MapKept.run_checkKey underlying9 (by simp [MapKept.IsKey,eS]) em 9999
 eq a b w:=by
  simp only [Op.equal,Op.maxDepth,eS];rw [run_equalIn_string w 9999 9 a b underlying9,list_eqB]
 under:=⟨_,underlying9,fun a b=>.inr (by simp only [Instr.sameNow,eS];rw [bytes_eqB])⟩
 stays a w:=by simp [Instr.keyThatStays,eS,Instr.sameBits,bytes_eqB]
def numb (ns:List ByteArray):List (ByteArray×Int):=ns.zipIdx.map fun p=>(p.1,(p.2:Int))
def bQD (ns:List ByteArray) (s:ByteArray):Option Nat:=ns.findIdx? fun x=>decide (x=s)
theorem get_numb_from (ns:List ByteArray) (s:ByteArray) (k:Nat):get ((ns.zipIdx k).map fun p=>(p.1,(p.2:Int))) s=(bQD ns s).map (fun i=>((i+k:Nat):Int)):=by
 induction ns generalizing k with
 | nil=>rfl
 | cons x ns ih=>
  rw [List.zipIdx_cons,List.map_cons,bQE,ih];unfold bQD;rw [List.findIdx?_cons];by_cases h:x=s
  ·simp [h]
  ·rw [if_neg h];simp only [h,decide_false,Bool.false_eq_true,if_false];cases List.findIdx? (fun x=>decide (x=s)) ns with
   | none=>rfl
   | some i=>simp;omega
theorem get_numb (ns:List ByteArray) (s:ByteArray):get (numb ns) s=(bQD ns s).map (fun i:Nat=>(i:Int)):=by
 have:=get_numb_from ns s 0;exact this
theorem numb_push {ns:List ByteArray} {s:ByteArray} (h:bQD ns s=none):put (numb ns) s (ns.length:Int)=numb (ns++[s]):=by
 unfold put;rw [get_numb,h];simp [numb,List.zipIdx_append]
theorem vQA {A:Type} (l:List (ByteArray×A)) (s:ByteArray):bQD (l.map Prod.fst) s=yQB l s:=by
 unfold bQD yQB;rw [List.findIdx?_map];rfl
structure SetV (w:World) (base:Nat) (X:List Nat) (tv mv:Value) (ns:List ByteArray):Prop where
 row:w.ownsRow base 9 1 tv ns.length (ns.map eS)
 rowA:∀ j,tv.ownBlock=some j→j∉X
 map:(mv=.map none∧ns=[])∨∃ r,mv=.map (some r)∧cQB eS eI w r (numb ns)∧base≤r∧r∉X∧tv.ownBlock≠some r
theorem aQF {w:World} {B o:Nat} {ns:List ByteArray} {a:Option Addr} {c:Nat} (hc:w.cell? ⟨B,o,none⟩=some (.slice a ns.length c)):Calls prog 254 #[.pointer (some ⟨B,o,none⟩)] w fun e w'=>e=.returned (.int .i64 ns.length)∧w' = w:=by
 go_enter func254,ntmps254
 go_wp2_with fail
 go_ret
 exact ⟨rfl,rfl⟩
theorem look_nil (s:ByteArray) (w:World):(Instr.lookup 137 (.map none) (.string s) true).run prog w=.ok (.tuple #[.int .i64 0,.bool false]) w:=by
 have hc:=key9.check true s w;have hf:=rQF (ev:=eI) key9 s w [] [] rfl;simp only [eS] at hc hf;unfold Instr.lookup;simp only [Sem.run_bind,run_underlying underlying137,Result.andThen_ok,Sem.run_pure];rw [show (#[]:Array MapEntry).isEmpty=true from rfl,hc];simp only [Result.andThen_ok];rw [hf];simp only [Result.andThen_ok,spot,Sem.run_bind,zero3,Sem.run_pure,if_true]
theorem iQD {w:World} {B o:Nat} {tv mv:Value} {base:Nat} {X:List Nat} {ns:List ByteArray} (h:SetV w base X tv mv ns) (hc:w.cell? ⟨B,o+1,none⟩=some mv) (s:ByteArray):Calls prog 77 #[.pointer (some ⟨B,o,none⟩),.string s] w fun e w'=>e=.returned (.tuple #[.int .i64 ((bQD ns s).getD 0:Nat),.bool (bQD ns s).isSome])∧w' = w:=by
 rcases h.map with ⟨rfl,rfl⟩ | ⟨r,rfl,hm,_⟩
 ·have hl:=look_nil s w;go_enter func77,ntmps77
  go_wp2_with fail
  go_ret2
  exact ⟨rfl,rfl⟩
 ·have hl:=xQD (P:=prog) underlying137 key9 (z:=.int .i64 0) zero3 hm s true;rw [get_numb] at hl;simp only [eS,if_true] at hl;cases hp:bQD ns s with
  | none=>
   rw [hp] at hl;simp only [Option.map_none,Option.getD_none,Option.isSome_none] at hl;go_enter func77,ntmps77
   go_wp2_with fail
   go_ret2
   exact ⟨rfl,rfl⟩
  | some i=>
   rw [hp] at hl;simp only [Option.map_some,Option.getD_some,Option.isSome_some,eI] at hl;go_enter func77,ntmps77
   go_wp2_with fail
   go_ret2
   exact ⟨rfl,rfl⟩
theorem SetV.keeps {w w':World} {base:Nat} {X T:List Nat} {tv mv:Value} {ns:List ByteArray} (h:SetV w base X tv mv ns) (k:aQA T w w') (hT:∀ j∈T,j∈X∨j<base∨w.heap.size≤j):SetV w' base X tv mv ns:=by
 refine ⟨bQA h.row k (fun j hj hjT=>?_),h.rowA,?_⟩
 ·have:=qQA h.row j hj;rcases hT j hjT with h' | h' | h'
  ·exact h.rowA j hj h'
  ·omega
  ·omega
 ·rcases h.map with hm | ⟨r,h1,h2,h3,h4,h5⟩
  ·exact .inl hm
  ·refine .inr ⟨r,h1,h2.of_heap (k.block r h2.lt (fun hjT=>?_)),h3,h4,h5⟩;rcases hT r hjT with h' | h' | h'
   ·exact h4 h'
   ·omega
   ·have:=h2.lt;omega
end
section
open Go.RowKit
structure Added (w:World) (base:Nat) (X:List Nat) (B o:Nat) (cs:Array Value) (tv mv:Value) (ns:List ByteArray) (s:ByteArray) (w':World):Prop where
 set:∃ tv' mv',cQA w' B ((cs.setIfInBounds (o+1) mv').setIfInBounds o tv')∧SetV w' base X tv' mv' (ns++[s])∧(∀ j,tv'.ownBlock=some j→tv.ownBlock=some j∨w.heap.size≤j)∧(∀ r,mv' = .map (some r)→mv=.map (some r)∨w.heap.size≤r)
 keep:∃ T,aQA T w w'∧∀ j∈T,j=B∨tv.ownBlock=some j∨mv=.map (some j)
theorem str_one {W:World} {s:ByteArray}:∀ (j:Nat) (u:Value),[Value.string s][j]?=some u→(W.alloc (.cells #[.string s] 9)).cell? ((⟨W.heap.size,0,none⟩:Addr).add j)=some u:=by
 intro j u hu;rw [Addr.add_lit,Nat.zero_add,(cQA.new W #[.string s] 9).cell];match j with
 | 0=>simpa using hu
 | j+1=>simp at hu
theorem make_map (w:World):(Instr.makeMap 137 none).run prog w=.ok (.map (some w.heap.size)) (w.alloc (.map #[] 0)):=by
 first
  | rfl
  | (simp [Instr.makeMap,go_sem];done)
  | kernel_rfl
theorem map_nil (r:Option Nat) (w:World):(binOp .eql 137 (.map r) (.map none)).run prog w=.ok (.bool r.isNone) w:=by
 simp only [binOp];have:(Op.equalIn 10000 137 (.map r) (.map none)).run prog w=.ok r.isNone w:=by
  unfold Op.equalIn;simp only [Sem.run_bind,run_underlying underlying137,Result.andThen_ok];cases r <;> rfl
 simp [Op.equal,Op.maxDepth,this]
theorem add_some {w:World} {base:Nat} {X:List Nat} {B o r:Nat} {cs:Array Value} {tv:Value} {ns:List ByteArray} {s:ByteArray} (hB:cQA w B cs) (h0:cs[o]?=some tv) (h1:cs[o+1]?=some (.map (some r))) (hBX:B∈X) (hX:∀ j∈X,j<w.heap.size) (hs:SetV w base X tv (.map (some r)) ns) (hm:cQB eS eI w r (numb ns)) (hl:ns.length≤1000000) (hp:bQD ns s=none) :
  Calls prog 72 #[.pointer (some ⟨B,o,none⟩),.string s] w fun e w'=>e=.returned (.int .i64 ns.length)∧Added w base X B o cs tv (.map (some r)) ns s w':=by
 obtain ⟨i0,hi0,hz0,hz1,hz2⟩:=info_parts info9;have hlk:=xQD (P:=prog) underlying137 key9 (z:=.int .i64 0) zero3 hm s true;rw [get_numb,hp] at hlk;simp only [eS,if_true,Option.map_none,Option.getD_none,Option.isSome_none] at hlk;obtain ⟨ob,hrun,hmm⟩:=wQG (P:=prog) underlying137 key9 hm s (ns.length:Int);rw [numb_push hp] at hmm;simp only [eS,eI] at hrun;have c0:w.cell? ⟨B,o,none⟩=some tv:=by rw [hB.cell];exact h0
 have c1:w.cell? ⟨B,o+1,none⟩=some (.map (some r)):=by rw [hB.cell];exact h1
 obtain ⟨ay,cy,hty⟩:=fQA hs.row;subst hty;have hrB:r≠B:=by
  rintro rfl;obtain ⟨t,ht⟩:=hB;obtain ⟨es,clock,hh,_⟩:=hm;rw [ht] at hh;cases hh
 obtain ⟨hr1,hr2⟩:r∉X∧(Value.slice ay ns.length cy).ownBlock≠some r:=by
  rcases hs.map with ⟨h,_⟩ | ⟨r',h,_,_,h4,h5⟩
  ·cases h
  ·cases h;exact ⟨h4,h5⟩
 have kb:=aQA.blk w r ob;have hB2:=hB.keeps kb (by simp;exact fun e=>hrB e.symm);have own2:=bQA hs.row kb (fun j hj hT=>hr2 (by have e:j=r:=(by simpa using hT);rw [←e];exact hj));generalize hW:blk w r ob=W at *;have d0:W.cell? ⟨B,o,none⟩=some (.slice ay ns.length cy):=by rw [hB2.cell];exact h0
 have kA:=aQA.alloc [] W (.cells #[.string s] 9);have own3:=bQA own2 kA (by simp);have hbase:base≤w.heap.size:=by
  rcases hs.map with ⟨h,_⟩ | ⟨r',h,h2,h3,_⟩
  ·cases h
  ·have:=h2.lt;omega
 have hszW:w.heap.size≤W.heap.size:=kb.size;have Hmm:=hide hmm;have hq:=map_nil (some r) w;have hBs:=hB.lt;clear hmm;go_enter func72,ntmps72
 go_wp2_with (at_builtin;refine wpList_append_own_at _ rfl _ _ 35 rfl base 9 i0 (.string ⟨#[]⟩) 1 16 underlying35 hi0 hz0 hz1 hz2 rfl (by decide) _ ns.length (ns.map eS) rfl own3 ⟨W.heap.size,0,none⟩ 1 1 [.string s] rfl (by simp) str_one (by simp [Value.oneCell']) (by unfold maxLen;omega) (by omega) (by rw [dQA];omega) ?_)
 intro v' W2 own4 grow4 nil4 at4;have k4:=grownBy_keeps' grow4 (Value.slice ay ns.length cy).ownBlock.toList (fun r e=>.inl (by simp [e]));have hB4:=(hB2.keeps kA (by simp)).keeps k4 (fun hT=>hs.rowA B (by simpa using hT) hBX);obtain ⟨gg,cap,rfl⟩:=kQC own4;have e0:W2.cell? ⟨B,o,none⟩=some (.slice ay ns.length cy):=by rw [hB4.cell];exact h0
 have f0:=hB4.frozen o;have ks:=aQA.setCell W2 ⟨B,o,none⟩ (.slice (some ⟨gg,0,none⟩) (ns.length+1) cap);have hgg:(Value.slice ay ns.length cy).ownBlock=some gg∨gg=W.heap.size+1:=by
  rcases at4 with h | h
  ·left;rw [←h];rfl
  ·right;simpa [Value.ownBlock] using h
 have hrlt:=hm.lt;have hggX:gg∉X:=by
  rcases hgg with h | h
  ·exact hs.rowA gg h
  ·intro hx;have:=hX gg hx;omega
 have hggr:gg≠r:=by
  rcases hgg with h | h
  ·rintro rfl;exact hr2 h
  ·omega
 have hmF:cQB eS eI (W2.setCell ⟨B,o,none⟩ (.slice (some ⟨gg,0,none⟩) (ns.length+1) cap)) r (numb (ns++[s])):=by
  have k5:aQA ((Value.slice ay ns.length cy).ownBlock.toList++[B]) W (W2.setCell ⟨B,o,none⟩ (.slice (some ⟨gg,0,none⟩) (ns.length+1) cap)):=((kA.mono (by simp)).trans (k4.mono (fun i hi=>List.mem_append_left _ hi))).trans (ks.mono (by simp));refine Hmm.out.of_heap (k5.block r Hmm.out.lt (fun hT=>?_));rcases List.mem_append.1 hT with hT | hT
  ·exact hr2 (by simpa using hT)
  ·exact hrB (by simpa using hT)
 have ownF:=bQA own4 ks (fun j hj hT=>by
  have e1:j=B:=(by simpa using hT);have e2:gg=j:=(by simpa [Value.ownBlock] using hj);exact hggX (by rw [e2,e1];exact hBX))
 have hBF:=hB4.setCell o (.slice (some ⟨gg,0,none⟩) (ns.length+1) cap);have hsame:cs.setIfInBounds (o+1) (.map (some r))=cs:=by
  apply Array.ext_getElem?;intro i;rw [Array.getElem?_setIfInBounds];split
  ·rename_i h;subst h;split
   ·exact h1.symm
   ·rename_i hlt;rw [Array.getElem?_eq_none (by omega)] at h1;cases h1
  ·rfl
 have kF:aQA ([B,r]++(Value.slice ay ns.length cy).ownBlock.toList) w (W2.setCell ⟨B,o,none⟩ (.slice (some ⟨gg,0,none⟩) (ns.length+1) cap)):=(((kb.mono (by simp)).trans (kA.mono (by simp))).trans (k4.mono (fun i hi=>List.mem_append_right _ hi))).trans (ks.mono (by simp));have Hend:Hid (Added w base X B o cs (.slice ay ns.length cy) (.map (some r)) ns s (W2.setCell ⟨B,o,none⟩ (.slice (some ⟨gg,0,none⟩) (ns.length+1) cap))):=hide ⟨⟨.slice (some ⟨gg,0,none⟩) (ns.length+1) cap,.map (some r),by rw [hsame];exact hBF,⟨by rw [List.length_append,List.length_singleton,List.map_append];exact ownF,fun j hj=>by have e:gg=j:=(by simpa [Value.ownBlock] using hj);rw [←e];exact hggX,.inr ⟨r,rfl,hmF,by
   rcases hs.map with ⟨h,_⟩ | ⟨r',h,_,h3,_⟩
   ·cases h
   ·cases h;exact h3,hr1,by simp [Value.ownBlock];exact hggr⟩⟩,fun j hj=>by
    have e:gg=j:=(by simpa [Value.ownBlock] using hj);rcases hgg with h | h
    ·left;rw [←e];exact h
    ·right;omega,fun r' h=>.inl h⟩,⟨_,kF,fun j hj=>by
    rcases List.mem_append.1 hj with h | h
    ·simp at h;rcases h with h | h
     ·exact .inl h
     ·exact .inr (.inr (by rw [h]))
    ·exact .inr (.inl (by simpa using h))⟩⟩
 clear ownF hmF hBF hB4 kF ks own4 grow4 at4 k4 hB2 own2 own3 kA;go_wp2_with fail
 go_ret
 exact ⟨rfl,Hend.out⟩
theorem add_nil {w:World} {base:Nat} {X:List Nat} {B o:Nat} {cs:Array Value} {tv:Value} {s:ByteArray} (hB:cQA w B cs) (h0:cs[o]?=some tv) (h1:cs[o+1]?=some (.map none)) (hBX:B∈X) (hX:∀ j∈X,j<w.heap.size) (hbase:base≤w.heap.size) (hs:SetV w base X tv (.map none) []) :
  Calls prog 72 #[.pointer (some ⟨B,o,none⟩),.string s] w fun e w'=>e=.returned (.int .i64 0)∧Added w base X B o cs tv (.map none) [] s w':=by
 obtain ⟨i0,hi0,hz0,hz1,hz2⟩:=info_parts info9;have hlk:=look_nil s w;have hq:=map_nil none w;have hmk:=make_map w;have hBs:=hB.lt;have c0:w.cell? ⟨B,o,none⟩=some tv:=by rw [hB.cell];exact h0
 have c1:w.cell? ⟨B,o+1,none⟩=some (.map none):=by rw [hB.cell];exact h1
 have f1:=hB.frozen (o+1);obtain ⟨ay,cy,hty⟩:=fQA hs.row;subst hty;have kA1:=aQA.alloc [] w (.map #[] 0);have c1':(w.alloc (.map #[] 0)).cell? ⟨B,o+1,none⟩=some (.map none):=by rw [(hB.keeps kA1 (by simp)).cell];exact h1
 have f1':=(hB.keeps kA1 (by simp)).frozen (o+1);have ks1:=aQA.setCell w ⟨B,o+1,none⟩ (.map (some w.heap.size));have hB1:=hB.setCell (o+1) (.map (some w.heap.size));have hm1:cQB eS eI ((w.setCell ⟨B,o+1,none⟩ (.map (some w.heap.size))).alloc (.map #[] 0)) w.heap.size ([]:List (ByteArray×Int)):=by
  have:=cQB.new (ek:=eS) (ev:=eI) (w.setCell ⟨B,o+1,none⟩ (.map (some w.heap.size))) 0;rw [size_set] at this;exact this
 have hB2:=hB1.keeps (aQA.alloc [] _ (.map #[] 0)) (by simp);have row2:=bQA (bQA hs.row ks1 (fun j hj hT=>hs.rowA j hj (by have e:j=B:=(by simpa using hT);rw [e];exact hBX))) (aQA.alloc [] (w.setCell ⟨B,o+1,none⟩ (.map (some w.heap.size))) (.map #[] 0)) (by simp);have k2:aQA [B] w ((w.setCell ⟨B,o+1,none⟩ (.map (some w.heap.size))).alloc (.map #[] 0)):=ks1.trans (aQA.alloc [B] _ _);have hsz2:((w.setCell ⟨B,o+1,none⟩ (.map (some w.heap.size))).alloc (.map #[] 0)).heap.size=w.heap.size+1:=by rw [dQA,size_set]
 obtain ⟨ob,hrun,hmm⟩:=wQG (P:=prog) underlying137 key9 hm1 s (0:Int);have hput:put ([]:List (ByteArray×Int)) s 0=numb ([]++[s]):=rfl;rw [hput] at hmm;simp only [eS,eI] at hrun;have g0:((w.setCell ⟨B,o+1,none⟩ (.map (some w.heap.size))).alloc (.map #[] 0)).cell? ⟨B,o,none⟩=some (.slice ay 0 cy):=by
  rw [hB2.cell,Array.getElem?_setIfInBounds_ne (by omega)];exact h0
 have g1:((w.setCell ⟨B,o+1,none⟩ (.map (some w.heap.size))).alloc (.map #[] 0)).cell? ⟨B,o+1,none⟩=some (.map (some w.heap.size)):=by
  rw [hB2.cell,Array.getElem?_setIfInBounds_self,if_pos];rcases Nat.lt_or_ge (o+1) cs.size with h | h
  ·exact h
  ·rw [Array.getElem?_eq_none h] at h1;cases h1
 have kb:=aQA.blk ((w.setCell ⟨B,o+1,none⟩ (.map (some w.heap.size))).alloc (.map #[] 0)) w.heap.size ob;have hB3:=hB2.keeps kb (by simp;omega);have row3:=bQA row2 kb (fun j hj hT=>by have e:j=w.heap.size:=(by simpa using hT);have:=(qQA hs.row j hj).2;omega);have hszb:(blk ((w.setCell ⟨B,o+1,none⟩ (.map (some w.heap.size))).alloc (.map #[] 0)) w.heap.size ob).heap.size=w.heap.size+1:=by rw [←hsz2];simp [blk]
 generalize hW:blk ((w.setCell ⟨B,o+1,none⟩ (.map (some w.heap.size))).alloc (.map #[] 0)) w.heap.size ob=W at *;have d0:W.cell? ⟨B,o,none⟩=some (.slice ay 0 cy):=by rw [hB3.cell,Array.getElem?_setIfInBounds_ne (by omega)];exact h0
 have kA:=aQA.alloc [] W (.cells #[.string s] 9);have own3:=bQA row3 kA (by simp);have Hmm:=hide hmm;have Hszb:=hide hszb;clear hszb;have Hk2:=hide k2;clear hmm hm1 k2;go_enter func72,ntmps72
 go_wp2_with (at_builtin;refine wpList_append_own_at _ rfl _ _ 35 rfl base 9 i0 (.string ⟨#[]⟩) 1 16 underlying35 hi0 hz0 hz1 hz2 rfl (by decide) _ 0 [] rfl own3 ⟨W.heap.size,0,none⟩ 1 1 [.string s] rfl (by simp) str_one (by simp [Value.oneCell']) (by unfold maxLen;omega) (by omega) (by rw [dQA];have:=Hszb.out;omega) ?_)
 intro v' W2 own4 grow4 nil4 at4;have hszb:=Hszb.out;have k4:=grownBy_keeps' grow4 (Value.slice ay 0 cy).ownBlock.toList (fun r e=>.inl (by simp [e]));have hB4:=(hB3.keeps kA (by simp)).keeps k4 (fun hT=>hs.rowA B (by simpa using hT) hBX);obtain ⟨gg,cap,rfl⟩:=kQC own4;have e0:W2.cell? ⟨B,o,none⟩=some (.slice ay 0 cy):=by rw [hB4.cell,Array.getElem?_setIfInBounds_ne (by omega)];exact h0
 have f0:=hB4.frozen o;have ks:=aQA.setCell W2 ⟨B,o,none⟩ (.slice (some ⟨gg,0,none⟩) (0+1) cap);have hgg:(Value.slice ay 0 cy).ownBlock=some gg∨gg=W.heap.size+1:=by
  rcases at4 with h | h
  ·left;rw [←h];rfl
  ·right;simpa [Value.ownBlock] using h
 have hggX:gg∉X:=by
  rcases hgg with h | h
  ·exact hs.rowA gg h
  ·intro hx;have:=hX gg hx;omega
 have hggr:gg≠w.heap.size:=by
  rcases hgg with h | h
  ·have:=(qQA hs.row gg h).2;omega
  ·omega
 have hmF:cQB eS eI (W2.setCell ⟨B,o,none⟩ (.slice (some ⟨gg,0,none⟩) (0+1) cap)) w.heap.size (numb ([]++[s])):=by
  have k5:aQA ((Value.slice ay 0 cy).ownBlock.toList++[B]) W (W2.setCell ⟨B,o,none⟩ (.slice (some ⟨gg,0,none⟩) (0+1) cap)):=((kA.mono (by simp)).trans (k4.mono (fun i hi=>List.mem_append_left _ hi))).trans (ks.mono (by simp));refine Hmm.out.of_heap (k5.block w.heap.size Hmm.out.lt (fun hT=>?_));rcases List.mem_append.1 hT with hT | hT
  ·have:=(qQA hs.row _ (by simpa using hT)).2;omega
  ·have e:w.heap.size=B:=(by simpa using hT);omega
 have ownF:=bQA own4 ks (fun j hj hT=>by
  have e1:j=B:=(by simpa using hT);have e2:gg=j:=(by simpa [Value.ownBlock] using hj);exact hggX (by rw [e2,e1];exact hBX))
 have hBF:=hB4.setCell o (.slice (some ⟨gg,0,none⟩) (0+1) cap);have kF:aQA ([B]++(Value.slice ay 0 cy).ownBlock.toList) w (W2.setCell ⟨B,o,none⟩ (.slice (some ⟨gg,0,none⟩) (0+1) cap)):=((((Hk2.out.mono (T':=[B]++(Value.slice ay 0 cy).ownBlock.toList) (by simp)).trans_new kb (by simp)).trans (kA.mono (by simp))).trans (k4.mono (fun i hi=>List.mem_append_right _ hi))).trans (ks.mono (by simp));have Hend:Hid (Added w base X B o cs (.slice ay 0 cy) (.map none) [] s (W2.setCell ⟨B,o,none⟩ (.slice (some ⟨gg,0,none⟩) (0+1) cap))):=hide ⟨⟨.slice (some ⟨gg,0,none⟩) (0+1) cap,.map (some w.heap.size),hBF,⟨ownF,fun j hj=>by have e:gg=j:=(by simpa [Value.ownBlock] using hj);rw [←e];exact hggX,.inr ⟨w.heap.size,rfl,hmF,hbase,fun hx=>by have:=hX _ hx;omega,by simp [Value.ownBlock];exact hggr⟩⟩,fun j hj=>by
    have e:gg=j:=(by simpa [Value.ownBlock] using hj);rcases hgg with h | h
    ·left;rw [←e];exact h
    ·right;omega,fun r' h=>.inr (by cases h;omega)⟩,⟨_,kF,fun j hj=>by
    rcases List.mem_append.1 hj with h | h
    ·exact .inl (by simpa using h)
    ·exact .inr (.inl (by simpa using h))⟩⟩
 clear hszb ownF hmF hBF hB4 kF ks own4 grow4 at4 k4 hB2 own3 kA;go_wp2_with fail
 go_ret
 exact ⟨rfl,Hend.out⟩
end
section
open Go.RowKit
theorem add_calls {w:World} {base:Nat} {X:List Nat} {B o:Nat} {cs:Array Value} {tv mv:Value} {ns:List ByteArray} {s:ByteArray} (hB:cQA w B cs) (h0:cs[o]?=some tv) (h1:cs[o+1]?=some mv) (hBX:B∈X) (hX:∀ j∈X,j<w.heap.size) (hbase:base≤w.heap.size) (hs:SetV w base X tv mv ns) (hl:ns.length≤1000000) (hp:bQD ns s=none) :
  Calls prog 72 #[.pointer (some ⟨B,o,none⟩),.string s] w fun e w'=>e=.returned (.int .i64 ns.length)∧Added w base X B o cs tv mv ns s w':=by
 rcases hs.map with ⟨h,h'⟩ | ⟨r,h,hm,_⟩
 ·subst h;subst h';exact add_nil hB h0 h1 hBX hX hbase hs
 ·subst h;exact add_some hB h0 h1 hBX hX hs hm hl hp
theorem iQC {w:World} (t:Tn) (c:Int):Calls prog 335 #[tokV t,.bool false,.int .i64 c] w fun e w'=>e=.returned (.tuple #[])∧w' = w.alloc (.cells #[.string (eQA t.g),.string (txt t.g),.int .i64 t.line] 129):=by
 unfold tokV;go_enter func335,ntmps335
 go_wp2_with fail
 go_end0
 exact ⟨rfl,rfl⟩
theorem dQC {w:World} (t:Tn) (c:Int):Calls prog 335 #[tokV t,.bool true,.int .i64 c] w fun e w'=>e=gQC c t.line∧w' = w.alloc (.cells #[.string (eQA t.g),.string (txt t.g),.int .i64 t.line] 129):=by
 have hg:=hide (fun w=>fQE (w:=w) c t.line);unfold tokV;go_enter func335,ntmps335
 go_wp2_with fail
 refine (hg.out _).mono ?_;rintro e w1 ⟨rfl,rfl⟩;exact ⟨rfl,rfl,rfl⟩
theorem eQL {w:World} (t:Tn) (s:ByteArray) (hg:t.g=.int s) (hw:WfG t.g):Calls prog 140 #[tokV t] w fun e w'=>e=.returned (.int .i64 (yQC t.g))∧w' = w.alloc (.cells #[.string (eQA t.g),.string (txt t.g),.int .i64 t.line] 129):=by
 rw [hg] at hw;obtain ⟨hd,hs1,hs2⟩:=hw;have hn:yQC t.g=valTo s s.size:=by rw [hg];rfl
 have htx:txt t.g=s:=by rw [hg];rfl
 rw [hn];unfold tokV;rw [htx];generalize eQA t.g=K;generalize t.line=ln;have Hd:=hide hd;clear hd hn htx hg;go_enter func140,ntmps140
 go_wp2_with fail
 go_loopw [3,8] (fun x y wr=>∃ i:Nat,x=.int .i64 (valTo s i)∧y=.int .i64 i∧i≤s.size∧wr=w.alloc (.cells #[.string K,.string s,.int .i64 ln] 129)) (fun _ y _=>s.size - (intOf y).toNat)
 case atStart=>exact ⟨0,rfl,rfl,by omega,rfl⟩
 case round=>
  obtain ⟨i,rfl,rfl,hi,rfl⟩:=hrel;by_cases hil:i<s.size
  ·have hiI:(i:Int)<s.size:=(by omega);have hl:=ltr_at hil;have hdi:=Hd.out i hil;have hb:48≤ltr s i∧ltr s i≤57:=by simp only [hQC,Bool.and_eq_true,decide_eq_true_eq] at hdi;exact hdi
   obtain ⟨hb1,hb2⟩:=hb;have hr:=fQL Hd.out (k:=i) (by omega) hs2;have Hstep:Hid (valTo s (i+1)=10 * valTo s i+(ltr s i - 48)):=hide (by rw [valTo,ltrG_ltr]);generalize valTo s i=V at hr Hstep ⊢;obtain ⟨hr1,hr2⟩:=hr;clear hdi;go_wp2_with fail
   go_roundw
   ·exact ⟨i+1,by rw [Hstep.out],by simp,by omega,trivial⟩
   ·simp only [intOf];omega
  ·have hiI:¬ (i:Int)<s.size:=(by omega);have e:i=s.size:=(by omega);subst e;go_wp2_with fail
   go_ret
   exact ⟨rfl,rfl⟩
theorem jQI {w:World} {B:Nat} {cs:Array Value} {base:Nat} {X:List Nat} {tD mD tN mN:Value} {ds ns:List ByteArray} (hB:cQA w B cs) (h1:cs[1]?=some mD) (h4:cs[4]?=some mN) (hd:SetV w base X tD mD ds) (hn:SetV w base X tN mN ns) (s:ByteArray) :
  Calls prog 336 #[.pointer (some ⟨B,0,none⟩),.string s] w fun e w'=>e=.returned (.bool ((bQD ds s).isSome || (bQD ns s).isSome))∧w' = w:=by
 have hp1:=hide (iQD (B:=B) (o:=0) hd (by rw [hB.cell];exact h1) s);have hp2:=hide (iQD (B:=B) (o:=3) hn (by rw [hB.cell];exact h4) s);cases e1:(bQD ds s).isSome with
 | true=>
  rw [e1] at hp1;go_enter func336,ntmps336
  go_wp2_with fail
  refine hp1.out.mono ?_;rintro e w1 ⟨rfl,rfl⟩;go_wp2_with fail
  refine hp2.out.mono ?_;rintro e w2 ⟨rfl,rfl⟩;go_wp2_with fail
  go_ret
  exact ⟨rfl,rfl⟩
 | false=>
  rw [e1] at hp1;go_enter func336,ntmps336
  go_wp2_with fail
  refine hp1.out.mono ?_;rintro e w1 ⟨rfl,rfl⟩;go_wp2_with fail
  refine hp2.out.mono ?_;rintro e w2 ⟨rfl,rfl⟩;go_wp2_with fail
  go_ret
  exact ⟨rfl,rfl⟩
end
section
open Go.RowKit
def ownL (v:Value):List Nat:=v.ownBlock.toList
def mapL:Value→List Nat | .map (some r)=>[r] | _=>[]
def bQI (l:List Int):List Value:=l.map fun n=>.int .i64 n
def oQI (l:List Nat):List Value:=l.map fun n:Nat=>Value.int .i64 (n:Int)
def gQF (w:World) (base:Nat) (X:List Nat):List (ByteArray×List Nat)→List Value→Prop
 | [],vs=>vs=[]
 | r :: rs,vs=>∃ v rest,vs=v :: rest∧w.ownsRow base 3 1 v r.2.length (oQI r.2)∧(∀ j∈ownL v,j∉X)∧gQF w base X rs rest
def termC (x:uQA):List Value:=[.bool x.isVar,.int .i64 x.num]
def pQD (xs:List uQA):List Value:=xs.flatMap termC
def fQF (w:World) (base:Nat) (X:List Nat):List (yQA×Bool)→List Value→Prop
 | [],vs=>vs=[]
 | l :: ls,vs=>∃ v rest,vs=[.int .i64 (l.1.rel:Int),v,.bool l.2]++rest∧w.ownsRow base 220 2 v l.1.terms.length (pQD l.1.terms)∧(∀ j∈ownL v,j∉X)∧fQF w base X ls rest
def xQC (w:World) (base:Nat) (X:List Nat):List iQA→List Value→Prop
 | [],vs=>vs=[]
 | c :: cs,vs=>∃ hv lv ls rest,vs=[.int .i64 (c.head.rel:Int),hv,lv]++rest∧w.ownsRow base 220 2 hv c.head.terms.length (pQD c.head.terms)∧(∀ j∈ownL hv,j∉X)∧w.ownsRow base 279 3 lv c.lits.length ls∧(∀ j∈ownL lv,j∉X)∧fQF w base X c.lits ls∧xQC w base X cs rest
section
variable {w w':World} {base:Nat} {X Y T:List Nat}
theorem keepRow {e:TypeId} {size n:Nat} {u:Value} {xs:List Value} (h:w.ownsRow base e size u n xs) (hx:∀ j∈ownL u,j∉X) (k:aQA T w w') (hT:∀ j∈T,j∈X∨j<base∨w.heap.size≤j):w'.ownsRow base e size u n xs:=
 bQA h k (fun j hj hjT=>by
  have:=qQA h j hj;rcases hT j hjT with h' | h' | h'
  ·exact hx j (by simp [ownL,hj]) h'
  ·omega
  ·omega)
theorem apartRow {e:TypeId} {size n:Nat} {u:Value} {xs:List Value} (h:w.ownsRow base e size u n xs) (hx:∀ j∈ownL u,j∉X) (hY:∀ j∈Y,j∈X∨w.heap.size≤j):∀ j∈ownL u,j∉Y:=fun j hj hjY=>by
 have:=qQA h j (by simpa [ownL] using hj);rcases hY j hjY with h' | h'
 ·exact hx j hj h'
 ·omega
theorem gQF.keeps {rs:List (ByteArray×List Nat)} {vs:List Value} (h:gQF w base X rs vs) (k:aQA T w w') (hT:∀ j∈T,j∈X∨j<base∨w.heap.size≤j):gQF w' base X rs vs:=by
 induction rs generalizing vs with
 | nil=>exact h
 | cons r rs ih=>
  obtain ⟨v,rest,h1,h2,h3,h4⟩:=h;exact ⟨v,rest,h1,keepRow h2 h3 k hT,h3,ih h4⟩
theorem gQF.apart {rs:List (ByteArray×List Nat)} {vs:List Value} (h:gQF w base X rs vs) (hY:∀ j∈Y,j∈X∨w.heap.size≤j):gQF w base Y rs vs:=by
 induction rs generalizing vs with
 | nil=>exact h
 | cons r rs ih=>
  obtain ⟨v,rest,h1,h2,h3,h4⟩:=h;exact ⟨v,rest,h1,h2,apartRow h2 h3 hY,ih h4⟩
theorem gQF.snoc {rs:List (ByteArray×List Nat)} {vs:List Value} (h:gQF w base X rs vs) {r:ByteArray×List Nat} {v:Value} (h2:w.ownsRow base 3 1 v r.2.length (oQI r.2)) (h3:∀ j∈ownL v,j∉X):gQF w base X (rs++[r]) (vs++[v]):=by
 induction rs generalizing vs with
 | nil=>
  have e:vs=[]:=h;subst e;exact ⟨v,[],rfl,h2,h3,rfl⟩
 | cons x rs ih=>
  obtain ⟨u,rest,k1,k2,k3,k4⟩:=h;exact ⟨u,rest++[v],by rw [k1];rfl,k2,k3,ih k4⟩
theorem gQF.at {rs:List (ByteArray×List Nat)} {vs:List Value} (h:gQF w base X rs vs) {i:Nat} {r:ByteArray×List Nat} (hr:rs[i]?=some r):∃ v,vs[i]?=some v∧w.ownsRow base 3 1 v r.2.length (oQI r.2)∧∀ j∈ownL v,j∉X:=by
 induction rs generalizing vs i with
 | nil=>simp at hr
 | cons x rs ih=>
  obtain ⟨v,rest,h1,h2,h3,h4⟩:=h;subst h1;cases i with
  | zero=>simp at hr;subst hr;exact ⟨v,rfl,h2,h3⟩
  | succ i=>obtain ⟨u,k1,k2⟩:=ih h4 (by simpa using hr);exact ⟨u,by simpa using k1,k2⟩
theorem fQF.keeps {ls:List (yQA×Bool)} {vs:List Value} (h:fQF w base X ls vs) (k:aQA T w w') (hT:∀ j∈T,j∈X∨j<base∨w.heap.size≤j):fQF w' base X ls vs:=by
 induction ls generalizing vs with
 | nil=>exact h
 | cons r rs ih=>
  obtain ⟨v,rest,h1,h2,h3,h4⟩:=h;exact ⟨v,rest,h1,keepRow h2 h3 k hT,h3,ih h4⟩
theorem fQF.apart {ls:List (yQA×Bool)} {vs:List Value} (h:fQF w base X ls vs) (hY:∀ j∈Y,j∈X∨w.heap.size≤j):fQF w base Y ls vs:=by
 induction ls generalizing vs with
 | nil=>exact h
 | cons r rs ih=>
  obtain ⟨v,rest,h1,h2,h3,h4⟩:=h;exact ⟨v,rest,h1,h2,apartRow h2 h3 hY,ih h4⟩
theorem fQF.snoc {ls:List (yQA×Bool)} {vs:List Value} (h:fQF w base X ls vs) {l:yQA×Bool} {v:Value} (h2:w.ownsRow base 220 2 v l.1.terms.length (pQD l.1.terms)) (h3:∀ j∈ownL v,j∉X):fQF w base X (ls++[l]) (vs++[.int .i64 (l.1.rel:Int),v,.bool l.2]):=by
 induction ls generalizing vs with
 | nil=>
  have e:vs=[]:=h;subst e;exact ⟨v,[],rfl,h2,h3,rfl⟩
 | cons x rs ih=>
  obtain ⟨u,rest,k1,k2,k3,k4⟩:=h;exact ⟨u,rest++[.int .i64 (l.1.rel:Int),v,.bool l.2],by rw [k1];simp,k2,k3,ih k4⟩
theorem xQC.keeps {cs:List iQA} {vs:List Value} (h:xQC w base X cs vs) (k:aQA T w w') (hT:∀ j∈T,j∈X∨j<base∨w.heap.size≤j):xQC w' base X cs vs:=by
 induction cs generalizing vs with
 | nil=>exact h
 | cons r rs ih=>
  obtain ⟨hv,lv,ls,rest,h1,h2,h3,h4,h5,h6,h7⟩:=h;exact ⟨hv,lv,ls,rest,h1,keepRow h2 h3 k hT,h3,keepRow h4 h5 k hT,h5,h6.keeps k hT,ih h7⟩
theorem xQC.apart {cs:List iQA} {vs:List Value} (h:xQC w base X cs vs) (hY:∀ j∈Y,j∈X∨w.heap.size≤j):xQC w base Y cs vs:=by
 induction cs generalizing vs with
 | nil=>exact h
 | cons r rs ih=>
  obtain ⟨hv,lv,ls,rest,h1,h2,h3,h4,h5,h6,h7⟩:=h;exact ⟨hv,lv,ls,rest,h1,h2,apartRow h2 h3 hY,h4,apartRow h4 h5 hY,h6.apart hY,ih h7⟩
theorem xQC.snoc {cs:List iQA} {vs:List Value} (h:xQC w base X cs vs) {c:iQA} {hv lv:Value} {ls:List Value} (h2:w.ownsRow base 220 2 hv c.head.terms.length (pQD c.head.terms)) (h3:∀ j∈ownL hv,j∉X) (h4:w.ownsRow base 279 3 lv c.lits.length ls) (h5:∀ j∈ownL lv,j∉X) (h6:fQF w base X c.lits ls):xQC w base X (cs++[c]) (vs++[.int .i64 (c.head.rel:Int),hv,lv]):=by
 induction cs generalizing vs with
 | nil=>
  have e:vs=[]:=h;subst e;exact ⟨hv,lv,ls,[],rfl,h2,h3,h4,h5,h6,rfl⟩
 | cons x rs ih=>
  obtain ⟨a,b,c',rest,k1,k2,k3,k4,k5,k6,k7⟩:=h;exact ⟨a,b,c',rest++[.int .i64 (c.head.rel:Int),hv,lv],by rw [k1];simp,k2,k3,k4,k5,k6,ih k7⟩
end
def qQD (B:Nat) (tD mD sz tN mN co cl ln:Value):List Nat:=[B]++ownL tD++mapL mD++ownL sz++ownL tN++mapL mN++ownL co++ownL cl++ownL ln
structure MeanV (w:World) (base B:Nat) (m:Mean) (tD mD sz tN mN co cl ln:Value) (cvs kvs:List Value):Prop where
 cells:cQA w B #[tD,mD,sz,tN,mN,co,cl,ln]
 low:base≤B
 foot:(qQD B tD mD sz tN mN co cl ln).Nodup
 doms:SetV w base [B] tD mD (m.doms.map Prod.fst)
 sizes:w.ownsRow base 3 1 sz m.doms.length (bQI (m.doms.map Prod.snd))
 names:SetV w base [B] tN mN (m.rels.map Prod.fst)
 cols:w.ownsRow base 40 1 co m.rels.length cvs
 colsA:gQF w base (qQD B tD mD sz tN mN co cl ln) m.rels cvs
 cls:w.ownsRow base 154 3 cl m.clauses.length kvs
 clsA:xQC w base (qQD B tD mD sz tN mN co cl ln) m.clauses kvs
 lines:w.ownsRow base 3 1 ln m.clauses.length (oQI (m.clauses.map (·.line)))
def jQB (w:World) (base B:Nat) (m:Mean):Prop:=∃ tD mD sz tN mN co cl ln cvs kvs,MeanV w base B m tD mD sz tN mN co cl ln cvs kvs
theorem tQJ {w:World} {base:Nat} {X:List Nat} {tv mv:Value} {ns:List ByteArray} (h:SetV w base X tv mv ns):∀ j∈mapL mv,base≤j∧j<w.heap.size:=fun j hj=>by
 rcases h.map with ⟨h1,_⟩ | ⟨r,h1,h2,h3,_⟩
 ·rw [h1] at hj;simp [mapL] at hj
 ·rw [h1] at hj;simp [mapL] at hj;subst hj;exact ⟨h3,h2.lt⟩
theorem jQC {w:World} {base:Nat} {e:TypeId} {size n:Nat} {v:Value} {xs:List Value} (h:w.ownsRow base e size v n xs):∀ j∈ownL v,base≤j∧j<w.heap.size:=fun j hj=>qQA h j (by simpa [ownL] using hj)
theorem MeanV.foot_lt {w:World} {base B:Nat} {m:Mean} {tD mD sz tN mN co cl ln:Value} {cvs kvs:List Value} (h:MeanV w base B m tD mD sz tN mN co cl ln cvs kvs):∀ j∈qQD B tD mD sz tN mN co cl ln,base≤j∧j<w.heap.size:=fun j hj=>by
 simp only [qQD,List.mem_append,List.mem_singleton] at hj;rcases hj with (((((((hj | hj) | hj) | hj) | hj) | hj) | hj) | hj) | hj
 ·subst hj;exact ⟨h.low,h.cells.lt⟩
 ·exact jQC h.doms.row j hj
 ·exact tQJ h.doms j hj
 ·exact jQC h.sizes j hj
 ·exact jQC h.names.row j hj
 ·exact tQJ h.names j hj
 ·exact jQC h.cols j hj
 ·exact jQC h.cls j hj
 ·exact jQC h.lines j hj
theorem SetV.kept {w w':World} {base:Nat} {X T:List Nat} {tv mv:Value} {ns:List ByteArray} (h:SetV w base X tv mv ns) (k:aQA T w w') (h1:∀ j∈ownL tv,j∉T) (h2:∀ j∈mapL mv,j∉T):SetV w' base X tv mv ns:=by
 refine ⟨bQA h.row k (fun j hj=>h1 j (by simp [ownL,hj])),h.rowA,?_⟩;rcases h.map with hm | ⟨r,a1,a2,a3,a4,a5⟩
 ·exact .inl hm
 ·exact .inr ⟨r,a1,a2.of_heap (k.block r a2.lt (h2 r (by rw [a1];simp [mapL]))),a3,a4,a5⟩
theorem MeanV.keeps {w w':World} {base B:Nat} {m:Mean} {tD mD sz tN mN co cl ln:Value} {cvs kvs:List Value} {T:List Nat} (h:MeanV w base B m tD mD sz tN mN co cl ln cvs kvs) (k:aQA T w w') (hT:∀ j∈T,j<base∨w.heap.size≤j):MeanV w' base B m tD mD sz tN mN co cl ln cvs kvs:=by
 have hT':∀ j,base≤j∧j<w.heap.size→j∉T:=fun j hj hjT=>by have:=hT j hjT;omega
 have own:∀ {e:TypeId} {size n:Nat} {u:Value} {xs:List Value},w.ownsRow base e size u n xs→w'.ownsRow base e size u n xs:=fun h=>bQA h k (fun j hj=>hT' j (qQA h j hj));exact ⟨h.cells.keeps k (hT' B ⟨h.low,h.cells.lt⟩),h.low,h.foot,h.doms.kept k (fun j hj=>hT' j (jQC h.doms.row j hj)) (fun j hj=>hT' j (tQJ h.doms j hj)),own h.sizes,h.names.kept k (fun j hj=>hT' j (jQC h.names.row j hj)) (fun j hj=>hT' j (tQJ h.names j hj)),own h.cols,h.colsA.keeps k (fun j hj=>.inr (hT j hj)),own h.cls,h.clsA.keeps k (fun j hj=>.inr (hT j hj)),own h.lines⟩
theorem jQB.keeps {w w':World} {base B:Nat} {m:Mean} {T:List Nat} (h:jQB w base B m) (k:aQA T w w') (hT:∀ j∈T,j<base∨w.heap.size≤j):jQB w' base B m:=by
 obtain ⟨a,b,c,d,e,f,g,i,x,y,h⟩:=h;exact ⟨a,b,c,d,e,f,g,i,x,y,h.keeps k hT⟩
end
section
open Go.RowKit
theorem run_call {o : Oper} {a : Act} {w : World} (f : Nat) (xs : Array Operand) (tys : Array TypeId) (hop : o.op = .call { callee := .value (.func f), args := xs, argTypes := tys }) (fn : Func) (hf : prog.funcs[f]? = some fn) (hname : (fn.name == "runtime.NumGoroutine") = false) (hbody : fn.body.isNone = false) (vs : List Value) (hx : xs.toList.map a.eval = vs) : (execOp a.eval o).run prog w = .ok (.enter f vs.toArray) w := by
 have hx':xs.map a.eval=vs.toArray:=by subst hx;apply Array.ext';rw [Array.toList_map]
 have h1:a.eval (.func f)=.func (.func f) #[] #[]:=rfl
 have hn' : ¬ fn.name = "runtime.NumGoroutine" := by simpa using hname
 have hb':¬ fn.body=none:=by intro e;rw [e] at hbody;cases hbody
 simp only [execOp,hop,resolve,hx',h1,Deferred.ofValue,invoke,callFunc];simp [hf];rw [if_neg hn',if_neg hb']
theorem kQA {ops : Array Oper} {o : Oper} {a : Act} {w : World} {K : Act → World → Prop} {Q : Exit → Act → World → Prop} {E : Prop} (hg : o.guard = none) (f : Nat) (xs : Array Operand) (tys : Array TypeId) (hop : o.op = .call { callee := .value (.func f), args := xs, argTypes := tys }) (fn : Func) (hf : prog.funcs[f]? = some fn) (hname : (fn.name == "runtime.NumGoroutine") = false) (hbody : fn.body.isNone = false) (vs : List Value) (hx : xs.toList.map a.eval = vs)
  (h:Calls prog f vs.toArray w fun
   | .returned v,w''=>K (a.put o.dst v) w''
   | .panicked chain,w''=>Q (.panic chain) a w''
   | .outgrown,_=>LetsOut Q):if Region.wanted o (yielded ops a.tmps)=true then Oper.wp prog o a w K Q else E:=by
 have hw:Region.wanted o (yielded ops a.tmps)=true:=by simp [Region.wanted,hg]
 rw [if_pos hw];unfold Oper.wp;rw [run_call f xs tys hop fn hf hname hbody vs hx];exact h
theorem zQF {ops : Array Oper} {o : Oper} {a : Act} {w : World} {K : Act → World → Prop} {Q : Exit → Act → World → Prop} {E : Prop} (hg : o.guard = none) (f : Nat) (xs : Array Operand) (tys : Array TypeId) (hop : o.op = .call { callee := .value (.func f), args := xs, argTypes := tys }) (fn : Func) (hf : prog.funcs[f]? = some fn) (hname : (fn.name == "runtime.NumGoroutine") = false) (hbody : fn.body.isNone = false) (vs : List Value) (hx : xs.toList.map a.eval = vs)
  (h:Calls prog f vs.toArray w fun
   | .returned _,_=>False
   | .panicked chain,w''=>Q (.panic chain) a w''
   | .outgrown,_=>LetsOut Q) (_:Hid False→K (a.put o.dst undef) w):if Region.wanted o (yielded ops a.tmps)=true then Oper.wp prog o a w K Q else E:=by
 refine kQA hg f xs tys hop fn hf hname hbody vs hx (h.mono ?_);intro e w' he;cases e <;> first | exact he | exact he.elim
def AddTo (base B:Nat) (r:Except Flt Mean) (e:Ending) (w':World):Prop:=match r with
 | .ok m=>e=.returned (.tuple #[])∧jQB w' base B m
 | .error f=>e=gQC f.1 f.2
theorem dom_many {w:World} {base B:Nat} {m:Mean} (h:jQB w base B m) (n z:Tn) (h4:m.doms.length=4):Calls prog 334 #[.agg #[.string (eQA n.g),.string (txt n.g),.int .i64 n.line,.string (eQA z.g),.string (txt z.g),.int .i64 z.line],.pointer (some ⟨B,0,none⟩)] w fun e w'=>e=gQC 6 n.line∧aQA [] w w':=by
 obtain ⟨tD,mD,sz,tN,mN,co,cl,ln,cvs,kvs,hV⟩:=h;have kA:=aQA.alloc [] w (.cells #[.string (eQA n.g),.string (txt n.g),.int .i64 n.line,.string (eQA z.g),.string (txt z.g),.int .i64 z.line] 321);obtain ⟨aD,cD,hD⟩:=fQA hV.doms.row;have hlen:=hide (fun (w':World) (k:aQA [] w w')=>aQF (w:=w') (B:=B) (o:=0) (ns:=m.doms.map Prod.fst) (a:=aD) (c:=cD) (by rw [(hV.cells.keeps k (by simp)).cell,←hD];rfl));have hBl:=hV.cells.lt;rw [List.length_map,h4] at hlen;have hno:=hide (fun (w:World)=>dQC (w:=w) n 6);clear hV;go_enter func334,ntmps334
 go_wp2_with fail
 go_region_law (first
  | (refine kQA rfl 254 _ _ rfl _ func254 (by kernel_rfl) (by kernel_rfl) [.pointer (some ⟨B,0,none⟩)] rfl ?_
     refine (hlen.out _ (kA.trans (aQA.drew _ _))).mono ?_;rintro e w1 ⟨rfl,rfl⟩)
  | (refine zQF rfl 335 _ _ rfl _ func335 (by kernel_rfl) (by kernel_rfl) [tokV n,.bool true,.int .i64 6] rfl ?_ ?_
     ·refine (hno.out _).mono ?_;rintro e w1 ⟨rfl,rfl⟩;exact ⟨rfl,rfl,(kA.trans (aQA.drew _ _)).trans (aQA.alloc [] _ _)⟩
     intro hf))
 all_goals exact (hf.out).elim
theorem dom_taken {w:World} {base B:Nat} {m:Mean} (h:jQB w base B m) (n z:Tn) (h4:¬ m.doms.length=4) (ht:m.taken (txt n.g)=true):Calls prog 334 #[.agg #[.string (eQA n.g),.string (txt n.g),.int .i64 n.line,.string (eQA z.g),.string (txt z.g),.int .i64 z.line],.pointer (some ⟨B,0,none⟩)] w fun e w'=>e=gQC 7 n.line∧aQA [] w w':=by
 obtain ⟨tD,mD,sz,tN,mN,co,cl,ln,cvs,kvs,hV⟩:=h;have kA:=aQA.alloc [] w (.cells #[.string (eQA n.g),.string (txt n.g),.int .i64 n.line,.string (eQA z.g),.string (txt z.g),.int .i64 z.line] 321);have hA:=cQA.new w #[.string (eQA n.g),.string (txt n.g),.int .i64 n.line,.string (eQA z.g),.string (txt z.g),.int .i64 z.line] 321;obtain ⟨aD,cD,hD⟩:=fQA hV.doms.row;have hlen:=hide (fun (w':World) (k:aQA [] w w')=>aQF (w:=w') (B:=B) (o:=0) (ns:=m.doms.map Prod.fst) (a:=aD) (c:=cD) (by rw [(hV.cells.keeps k (by simp)).cell,←hD];rfl));have htk:=hide (fun (w':World) (k:aQA [] w w')=>jQI (hV.cells.keeps k (by simp)) rfl rfl ((hV.keeps k (by simp)).doms) ((hV.keeps k (by simp)).names) (txt n.g));rw [vQA,vQA] at htk;change (_ || _)=true at ht;have ht':((yQB m.doms (txt n.g)).isSome || (yQB m.rels (txt n.g)).isSome)=true:=ht;rw [ht'] at htk;have hBl:=hV.cells.lt;rw [List.length_map] at hlen;have h4I:(((m.doms.length:Nat):Int) == 4)=false:=by rw [beq_eq_false_iff_ne];omega
 have hno:=hide (fun (w:World)=>iQC (w:=w) n 6);have hyes:=hide (fun (w:World)=>dQC (w:=w) n 7);clear hV ht ht';go_enter func334,ntmps334
 go_upto_region 1 with fail
 go_cut [] (fun wc=>aQA [] w wc∧cQA wc w.heap.size #[.string (eQA n.g),.string (txt n.g),.int .i64 n.line,.string (eQA z.g),.string (txt z.g),.int .i64 z.line])
 case first=>
  go_region_law (first
   | (refine kQA rfl 254 _ _ rfl _ func254 (by kernel_rfl) (by kernel_rfl) [.pointer (some ⟨B,0,none⟩)] rfl ?_
      refine (hlen.out _ (kA.trans (aQA.drew _ _))).mono ?_;rintro e w1 ⟨rfl,rfl⟩)
   | (refine kQA rfl 335 _ _ rfl _ func335 (by kernel_rfl) (by kernel_rfl) [tokV n,.bool false,.int .i64 6] rfl ?_
      refine (hno.out _).mono ?_;rintro e w1 ⟨rfl,rfl⟩))
  all_goals
   go_wp2_with fail
   go_meet
   exact ⟨(kA.trans (aQA.drew _ _)).trans (aQA.alloc [] _ _),(hA.keeps (aQA.drew [] _) (by simp)).keeps (aQA.alloc [] _ _) (by simp)⟩
 case rest=>
  obtain ⟨k1,hA1⟩:=hcut;have d0:=hA1.cell 0;have d1:=hA1.cell 1;have d2:=hA1.cell 2;go_wp2_with fail
  go_region_law (first
   | (refine kQA rfl 336 _ _ rfl _ func336 (by kernel_rfl) (by kernel_rfl) [.pointer (some ⟨B,0,none⟩),.string (txt n.g)] rfl ?_
      refine (htk.out _ (k1.trans (aQA.drew _ _))).mono ?_;rintro e w1 ⟨rfl,rfl⟩)
   | (refine zQF rfl 335 _ _ rfl _ func335 (by kernel_rfl) (by kernel_rfl) [tokV n,.bool true,.int .i64 7] rfl ?_ ?_
      ·refine (hyes.out _).mono ?_;rintro e w1 ⟨rfl,rfl⟩;exact ⟨rfl,rfl,(k1.trans (aQA.drew _ _)).trans (aQA.alloc [] _ _)⟩
      intro hf))
  all_goals exact (hf.out).elim
end
section
open Go.RowKit
theorem rQG (v:Value):(ownL v).Nodup:=by
 unfold ownL;cases v.ownBlock with
 | none=>exact List.Pairwise.nil
 | some x=>simp
theorem mapL_nodup (v:Value):(mapL v).Nodup:=by
 unfold mapL;split
 ·simp
 ·exact List.Pairwise.nil
theorem nodup_mid {A L R L':List Nat} {n:Nat} (h:(A++L++R).Nodup) (hlt:∀ j∈A++R,j<n) (hL:L'.Nodup) (hs:∀ j∈L',j∈L∨n≤j):(A++L'++R).Nodup:=by
 rw [List.nodup_append] at h ⊢;obtain ⟨h1,h2,h3⟩:=h;rw [List.nodup_append] at h1 ⊢;obtain ⟨h4,h5,h6⟩:=h1;refine ⟨⟨h4,hL,fun a ha b hb e=>?_⟩,h2,fun a ha b hb e=>?_⟩
 ·subst e;rcases hs a hb with h | h
  ·exact h6 a ha a h rfl
  ·have:=hlt a (List.mem_append_left _ ha);omega
 ·subst e;rcases List.mem_append.1 ha with h | h
  ·exact h3 a (List.mem_append_left _ h) a hb rfl
  ·rcases hs a h with h' | h'
   ·exact h3 a (List.mem_append_right _ h') a hb rfl
   ·have:=hlt a (List.mem_append_right _ hb);omega
theorem rQB {A L R:List Nat} (h:(A++L++R).Nodup):(∀ j∈L,j∉A∧j∉R)∧∀ j∈R,j∉A∧j∉L:=by
 rw [List.nodup_append] at h;obtain ⟨h1,h2,h3⟩:=h;rw [List.nodup_append] at h1;obtain ⟨h4,h5,h6⟩:=h1;exact ⟨fun j hj=>⟨fun ha=>h6 j ha j hj rfl,fun hr=>h3 j (List.mem_append_right _ hj) j hr rfl⟩,fun j hj=>⟨fun ha=>h3 j (List.mem_append_left _ ha) j hj rfl,fun hl=>h3 j (List.mem_append_right _ hl) j hj rfl⟩⟩
def restD (tN mN co cl ln:Value):List Nat:=ownL tN++mapL mN++ownL co++ownL cl++ownL ln
theorem footD (B:Nat) (tD mD sz tN mN co cl ln:Value):qQD B tD mD sz tN mN co cl ln=[B]++(ownL tD++mapL mD++ownL sz)++restD tN mN co cl ln:=by simp [qQD,restD]
theorem MeanV.addDom {w w':World} {base B:Nat} {m:Mean} {tD mD sz tN mN co cl ln tD' mD' sz':Value} {cvs kvs:List Value} {T:List Nat} (h:MeanV w base B m tD mD sz tN mN co cl ln cvs kvs) {s:ByteArray} {d:Int} (k:aQA T w w') (hT:∀ j∈T,j∈[B]++(ownL tD++mapL mD++ownL sz)∨w.heap.size≤j)
  (hc:cQA w' B #[tD',mD',sz',tN,mN,co,cl,ln]) (hs:SetV w' base [B] tD' mD' (m.doms.map Prod.fst++[s])) (hz:w'.ownsRow base 3 1 sz' (m.doms.length+1) (bQI (m.doms.map Prod.snd)++[.int .i64 d]))
  (hn:∀ j∈ownL tD'++mapL mD'++ownL sz',j∈ownL tD++mapL mD++ownL sz∨w.heap.size≤j) (hd:(ownL tD'++mapL mD'++ownL sz').Nodup):jQB w' base B { m with doms:=m.doms++[(s,d)] }:=by
 have hf:=h.foot;rw [footD] at hf;have hlt:=h.foot_lt;rw [footD] at hlt;have hAp:=rQB hf;have hBr:B∉restD tN mN co cl ln:=fun hx=>(hAp.2 B hx).1 (by simp);have hTr:∀ j∈restD tN mN co cl ln,j∉T:=fun j hj hjT=>by
  rcases hT j hjT with h' | h'
  ·rcases List.mem_append.1 h' with h' | h'
   ·exact (hAp.2 j hj).1 h'
   ·exact (hAp.2 j hj).2 h'
  ·have:=(hlt j (List.mem_append_right _ hj)).2;omega
 have hfN:(qQD B tD' mD' sz' tN mN co cl ln).Nodup:=by
  rw [footD];refine nodup_mid (n:=w.heap.size) hf (fun j hj=>?_) hd hn;rcases List.mem_append.1 hj with h' | h'
  ·exact (hlt j (List.mem_append_left _ (List.mem_append_left _ h'))).2
  ·exact (hlt j (List.mem_append_right _ h')).2
 have hXT:∀ j∈T,j∈qQD B tD mD sz tN mN co cl ln∨j<base∨w.heap.size≤j:=fun j hj=>by
  rcases hT j hj with h' | h'
  ·left;rw [footD];exact List.mem_append_left _ h'
  ·exact .inr (.inr h')
 have hY:∀ j∈qQD B tD' mD' sz' tN mN co cl ln++qQD B tD mD sz tN mN co cl ln,j∈qQD B tD mD sz tN mN co cl ln∨w.heap.size≤j:=fun j hj=>by
  rcases List.mem_append.1 hj with hj | hj
  ·rw [footD] at hj ⊢;rcases List.mem_append.1 hj with h' | h'
   ·rcases List.mem_append.1 h' with h'' | h''
    ·exact .inl (List.mem_append_left _ (List.mem_append_left _ h''))
    ·rcases hn j h'' with q | q
     ·exact .inl (List.mem_append_left _ (List.mem_append_right _ q))
     ·exact .inr q
   ·exact .inl (List.mem_append_right _ h')
  ·exact .inl hj
 have own:∀ {e:TypeId} {size n:Nat} {u:Value} {xs:List Value},w.ownsRow base e size u n xs→(∀ j∈ownL u,j∈restD tN mN co cl ln)→w'.ownsRow base e size u n xs:=fun h hr=>bQA h k (fun j hj=>hTr j (hr j (by simp [ownL,hj])));refine ⟨tD',mD',sz',tN,mN,co,cl,ln,cvs,kvs,hc,h.low,hfN,by rw [List.map_append];exact hs,by rw [List.length_append,List.length_singleton,List.map_append,bQI,List.map_append];exact hz,h.names.kept k (fun j hj=>hTr j (by simp [restD,hj])) (fun j hj=>hTr j (by simp [restD,hj])),own h.cols (fun j hj=>by simp [restD,hj]),?_,own h.cls (fun j hj=>by simp [restD,hj]),?_,own h.lines (fun j hj=>by simp [restD,hj])⟩
 ·exact (((h.colsA.apart hY).keeps k (fun j hj=>by
   rcases hXT j hj with h' | h'
   ·exact .inl (List.mem_append_right _ h')
   ·exact .inr h'))).apart (fun j hj=>.inl (List.mem_append_left _ hj))
 ·exact (((h.clsA.apart hY).keeps k (fun j hj=>by
   rcases hXT j hj with h' | h'
   ·exact .inl (List.mem_append_right _ h')
   ·exact .inr h'))).apart (fun j hj=>.inl (List.mem_append_left _ hj))
end
section
open Go.RowKit
theorem info3E:(prog.info? 3).map (fun i=>(i.zero,i.size,i.bytes))=some (some (.int .i64 0),1,8):=by kernel_rfl
theorem int_one {W:World} {x:Value}:∀ (j:Nat) (u:Value),[x][j]?=some u→(W.alloc (.cells #[x] 3)).cell? ((⟨W.heap.size,0,none⟩:Addr).add j)=some u:=by
 intro j u hu;rw [Addr.add_lit,Nat.zero_add,(cQA.new W #[x] 3).cell];match j with
 | 0=>simpa using hu
 | j+1=>simp at hu
def DomTo (base B:Nat) (m:Mean) (n z:Tn) (e:Ending) (w':World):Prop:=if yQC z.g<1∨8<yQC z.g then e=gQC 9 z.line else e=.returned (.tuple #[])∧jQB w' base B { m with doms:=m.doms++[(txt n.g,yQC z.g)] }
set_option maxHeartbeats 8000000 in
theorem dom_rest {w:World} {base B:Nat} {m:Mean} (h:jQB w base B m) (hbase:base≤w.heap.size) (n z:Tn) {zs:ByteArray} (hzg:z.g=.int zs) (hzw:WfG z.g) (h4:¬ m.doms.length=4) (h4l:m.doms.length≤4) (ht:m.taken (txt n.g)=false):Calls prog 334 #[.agg #[.string (eQA n.g),.string (txt n.g),.int .i64 n.line,.string (eQA z.g),.string (txt z.g),.int .i64 z.line],.pointer (some ⟨B,0,none⟩)] w fun e w'=>DomTo base B m n z e w'∧∃ T,aQA T w w'∧∀ j∈T,base≤j:=by
 obtain ⟨i0,hi0,hz0,hz1,hz2⟩:=info_parts info3E;obtain ⟨tD,mD,sz,tN,mN,co,cl,ln,cvs,kvs,hV⟩:=h;have kA:=aQA.alloc [] w (.cells #[.string (eQA n.g),.string (txt n.g),.int .i64 n.line,.string (eQA z.g),.string (txt z.g),.int .i64 z.line] 321);have hA:=cQA.new w #[.string (eQA n.g),.string (txt n.g),.int .i64 n.line,.string (eQA z.g),.string (txt z.g),.int .i64 z.line] 321;obtain ⟨aD,cD,hD⟩:=fQA hV.doms.row;have hlen:=hide (fun (w':World) (k:aQA [] w w')=>aQF (w:=w') (B:=B) (o:=0) (ns:=m.doms.map Prod.fst) (a:=aD) (c:=cD) (by rw [(hV.cells.keeps k (by simp)).cell,←hD];rfl));have htk:=hide (fun (w':World) (k:aQA [] w w')=>jQI (hV.cells.keeps k (by simp)) rfl rfl ((hV.keeps k (by simp)).doms) ((hV.keeps k (by simp)).names) (txt n.g));rw [vQA,vQA] at htk;have ht':((yQB m.doms (txt n.g)).isSome || (yQB m.rels (txt n.g)).isSome)=false:=ht;rw [ht'] at htk;have hpl:bQD (m.doms.map Prod.fst) (txt n.g)=none:=by
  rw [vQA];rw [Bool.or_eq_false_iff] at ht';exact Option.isNone_iff_eq_none.1 (by simpa using ht'.1)
 have hadd:=hide (fun (w':World) (k:aQA [] w w')=>add_calls (s:=txt n.g) (hV.cells.keeps k (by simp)) (o:=0) rfl rfl (X:=[B]) (by simp) (fun j hj=>by have e:j=B:=(by simpa using hj);have:=(hV.cells.keeps k (by simp)).lt;omega) (by have:=k.size;omega) ((hV.keeps k (by simp)).doms) (by rw [List.length_map];omega) hpl);have hBl:=hV.cells.lt;rw [List.length_map] at hlen;have h4I:(((m.doms.length:Nat):Int) == 4)=false:=by rw [beq_eq_false_iff_ne];omega
 have hno:=hide (fun (w:World)=>iQC (w:=w) n 6);have hno2:=hide (fun (w:World)=>iQC (w:=w) n 7);have hval:=hide (fun (w:World)=>eQL (w:=w) z zs hzg hzw);have HV:=hide hV;have hnr:0≤yQC z.g∧yQC z.g<100:=by
  rw [hzg] at hzw ⊢;exact fQL hzw.1 (Nat.le_refl _) hzw.2.2
 obtain ⟨hn0,hn1⟩:=hnr;clear hV ht ht' hzg hzw;go_enter func334,ntmps334
 go_upto_region 1 with fail
 go_cut [] (fun wc=>aQA [] w wc∧cQA wc w.heap.size #[.string (eQA n.g),.string (txt n.g),.int .i64 n.line,.string (eQA z.g),.string (txt z.g),.int .i64 z.line])
 case first=>
  go_region_law (first
   | (refine kQA rfl 254 _ _ rfl _ func254 (by kernel_rfl) (by kernel_rfl) [.pointer (some ⟨B,0,none⟩)] rfl ?_
      refine (hlen.out _ (kA.trans (aQA.drew _ _))).mono ?_;rintro e w1 ⟨rfl,rfl⟩)
   | (refine kQA rfl 335 _ _ rfl _ func335 (by kernel_rfl) (by kernel_rfl) [tokV n,.bool false,.int .i64 6] rfl ?_
      refine (hno.out _).mono ?_;rintro e w1 ⟨rfl,rfl⟩))
  all_goals
   go_wp2_with fail
   go_meet
   exact ⟨(kA.trans (aQA.drew _ _)).trans (aQA.alloc [] _ _),(hA.keeps (aQA.drew [] _) (by simp)).keeps (aQA.alloc [] _ _) (by simp)⟩
 case rest=>
  obtain ⟨k1,hA1⟩:=hcut;have d0:=hA1.cell 0;have d1:=hA1.cell 1;have d2:=hA1.cell 2;go_upto_region 2 with fail
  go_cut [] (fun wc2=>aQA [] w wc2∧cQA wc2 w.heap.size #[.string (eQA n.g),.string (txt n.g),.int .i64 n.line,.string (eQA z.g),.string (txt z.g),.int .i64 z.line])
  case first=>
   go_region_law (first
    | (refine kQA rfl 336 _ _ rfl _ func336 (by kernel_rfl) (by kernel_rfl) [.pointer (some ⟨B,0,none⟩),.string (txt n.g)] rfl ?_
       refine (htk.out _ (k1.trans (aQA.drew _ _))).mono ?_;rintro e w1 ⟨rfl,rfl⟩)
    | (refine kQA rfl 335 _ _ rfl _ func335 (by kernel_rfl) (by kernel_rfl) [tokV n,.bool false,.int .i64 7] rfl ?_
       refine (hno2.out _).mono ?_;rintro e w1 ⟨rfl,rfl⟩))
   all_goals
    go_wp2_with fail
    go_meet
    exact ⟨(k1.trans (aQA.drew _ _)).trans (aQA.alloc [] _ _),(hA1.keeps (aQA.drew [] _) (by simp)).keeps (aQA.alloc [] _ _) (by simp)⟩
  case rest=>
   clear d0 d1 d2 hA1 k1;obtain ⟨k1,hA1⟩:=hcut;have d0:=hA1.cell 0;have d1:=hA1.cell 1;have d3:=hA1.cell 3;have d4:=hA1.cell 4;have d5:=hA1.cell 5;go_wp2_with fail
   refine (hval.out _).mono ?_;rintro e w2 ⟨rfl,rfl⟩;have k2:=k1.trans (aQA.alloc [] wc (.cells #[.string (eQA z.g),.string (txt z.g),.int .i64 z.line] 129));have hA2:=hA1.keeps (aQA.alloc [] wc (.cells #[.string (eQA z.g),.string (txt z.g),.int .i64 z.line] 129)) (by simp);have e3:=hA2.cell 3;have e4:=hA2.cell 4;have e5:=hA2.cell 5;have hsr:=k1.size;clear d0 d1 d3 d4 d5;by_cases hr1:yQC z.g<1
   ·have Hr:Hid (yQC z.g<1∨8<yQC z.g):=hide (.inl hr1);have q1:decide (yQC z.g<1)=true:=decide_eq_true hr1;have q2:decide (8<yQC z.g)=false:=decide_eq_false (by omega);clear hr1;have hyes:=hide (fun (w:World)=>dQC (w:=w) z 9);go_wp2_with fail
    refine (hyes.out _).mono ?_;rintro e w3 ⟨rfl,rfl⟩;exact ⟨rfl,by unfold DomTo;rw [if_pos Hr.out];rfl,[],k2.trans (aQA.alloc [] _ _),by simp⟩
   ·by_cases hr2:8<yQC z.g
    ·have Hr:Hid (yQC z.g<1∨8<yQC z.g):=hide (.inr hr2);have q1:decide (yQC z.g<1)=false:=decide_eq_false hr1;have q2:decide (8<yQC z.g)=true:=decide_eq_true hr2;clear hr1 hr2;have hyes:=hide (fun (w:World)=>dQC (w:=w) z 9);go_wp2_with fail
     refine (hyes.out _).mono ?_;rintro e w3 ⟨rfl,rfl⟩;exact ⟨rfl,by unfold DomTo;rw [if_pos Hr.out];rfl,[],k2.trans (aQA.alloc [] _ _),by simp⟩
    ·have Hr:Hid (¬ (yQC z.g<1∨8<yQC z.g)):=hide (fun h=>h.elim hr1 hr2);have q1:decide (yQC z.g<1)=false:=decide_eq_false hr1;have q2:decide (8<yQC z.g)=false:=decide_eq_false hr2;clear hr1 hr2;have hno9:=hide (fun (w:World)=>iQC (w:=w) z 9);go_wp2_with fail
     refine (hno9.out _).mono ?_;rintro e w3 ⟨rfl,rfl⟩;have k3:=k2.trans (aQA.alloc [] _ (.cells #[.string (eQA z.g),.string (txt z.g),.int .i64 z.line] 129));have hA3:=hA2.keeps (aQA.alloc [] _ (.cells #[.string (eQA z.g),.string (txt z.g),.int .i64 z.line] 129)) (by simp);generalize hWW:((wc.alloc (.cells #[.string (eQA z.g),.string (txt z.g),.int .i64 z.line] 129)).alloc (.cells #[.string (eQA z.g),.string (txt z.g),.int .i64 z.line] 129))=W3 at *;have c1:=hA3.cell 1;clear hWW hA2 hA1 k1 k2 e3 e4 e5;go_upto_region 5 with fail
     go_cut [] (fun wx=>∃ wy,aQA [] w wy∧Added wy base [B] B 0 #[tD,mD,sz,tN,mN,co,cl,ln] tD mD (m.doms.map Prod.fst) (txt n.g) wx)
     case first=>
      go_region_law (first
       | (refine kQA rfl 72 _ _ rfl _ func72 (by kernel_rfl) (by kernel_rfl) [.pointer (some ⟨B,0,none⟩),.string (txt n.g)] rfl ?_
          refine (hadd.out _ (k3.trans (aQA.drew _ _))).mono ?_;rintro e w4 ⟨rfl,hAd⟩))
      all_goals
       go_wp2_with fail
       go_meet
       exact ⟨_,k3.trans (aQA.drew _ _),hAd⟩
     case rest=>
      obtain ⟨wy,ky,hAd⟩:=hcut;have hVy:=HV.out.keeps ky (by simp);obtain ⟨tv',mv',hcells,hset,hown',hmap'⟩:=hAd.set;obtain ⟨T,kT,hT⟩:=hAd.keep;have hT':∀ j∈T,j∈[B]++ownL tD++mapL mD:=fun j hj=>by
       rcases hT j hj with h | h | h
       ·simp [h]
       ·have h2:tD.ownBlock=some j:=h;simp [ownL,h2]
       ·have h2:mD=.map (some j):=h;simp [mapL,h2]
      have hcells':cQA wc B #[tv',mv',sz,tN,mN,co,cl,ln]:=hcells;have hfy:=hVy.foot;have hszT:∀ j∈ownL sz,j∉T:=fun j hj hjT=>by
       have h1:=hT' j hjT;have h2:(([B]++ownL tD++mapL mD)++ownL sz++restD tN mN co cl ln).Nodup:=by rw [footD] at hfy;simpa using hfy
       exact ((rQB h2).1 j hj).1 h1
      have hsz:=bQA hVy.sizes kT (fun j hj=>hszT j (by simp [ownL,hj]));obtain ⟨aS,cS,hS⟩:=fQA hsz;subst hS;have d2:=hcells'.cell 2;have hBc:=hcells'.lt;have kA4:=aQA.alloc [] wc (.cells #[.int .i64 (yQC z.g)] 3);have ownB:=bQA hsz kA4 (by simp);have hsy:=ky.size;have hsT:=kT.size;clear hadd hval hno hno2 hno9 htk hlen hAd hcells hT;go_wp2_with (at_builtin;refine wpList_append_own_at _ rfl _ _ 40 rfl base 3 i0 (.int .i64 0) 1 8 underlying40 hi0 hz0 hz1 hz2 rfl (by decide) _ m.doms.length (bQI (m.doms.map Prod.snd)) rfl ownB ⟨wc.heap.size,0,none⟩ 1 1 [.int .i64 (yQC z.g)] rfl (by simp) int_one (by simp [Value.oneCell']) (by unfold maxLen;omega) (by omega) (by rw [dQA];omega) ?_)
      intro v' W2 own4 grow4 nil4 at4;have k4:=grownBy_keeps' grow4 (ownL (.slice aS m.doms.length cS)) (fun r e=>.inl (by simp [ownL,e]));obtain ⟨gg,cap,rfl⟩:=kQC own4;have hB4:=(hcells'.keeps kA4 (by simp)).keeps k4 (fun hx=>by
       have h2:([B]++(ownL tD++mapL mD++ownL (.slice aS m.doms.length cS))++restD tN mN co cl ln).Nodup:=by rw [footD] at hfy;exact hfy
       exact ((rQB h2).1 B (List.mem_append_right _ hx)).1 (by simp))
      have e2:=hB4.cell 2;have f2:=hB4.frozen 2;have Hown4:=hide own4;have Hk4:=hide k4;have HB4:=hide hB4;clear own4 grow4 nil4 k4 hB4;go_wp2_with fail
      go_end0
      have hfD:=hfy;rw [footD] at hfD;have hAp:=rQB hfD;have hin:∀ {A L R:List Nat},(A++L++R).Nodup→∀ j∈L,j∉A:=fun h j hj=>((rQB h).1 j hj).1;have hDM:∀ j∈ownL (.slice aS m.doms.length cS),j∉ownL tD∧j∉mapL mD:=fun j hj=>by
       have h2:(([B]++ownL tD++mapL mD)++ownL (.slice aS m.doms.length cS)++restD tN mN co cl ln).Nodup:=(by simpa using hfD);have h3:=hin h2 j hj;exact ⟨fun q=>h3 (by simp [q]),fun q=>h3 (by simp [q])⟩
      have hszl:∀ j∈ownL (.slice aS m.doms.length cS),base≤j∧j<wy.heap.size:=fun j hj=>hVy.foot_lt j (by rw [footD];simp [hj]);have htl:∀ j∈ownL tv',j∈ownL tD∨wy.heap.size≤j:=fun j hj=>by
       rcases hown' j (by simpa [ownL] using hj) with h | h
       ·left;have h2:tD.ownBlock=some j:=h;simp [ownL,h2]
       ·exact .inr h
      have hml:∀ j∈mapL mv',j∈mapL mD∨wy.heap.size≤j:=fun j hj=>by
       have e:mv' = .map (some j):=by
        unfold mapL at hj;split at hj
        ·have e:j=_:=(by simpa using hj);rw [e]
        ·cases hj
       rcases hmap' j e with h | h
       ·left;have h2:mD=.map (some j):=h;simp [mapL,h2]
       ·exact .inr h
      have hts:∀ j∈ownL tv',j∉ownL (.slice aS m.doms.length cS):=fun j hj hs=>by
       rcases htl j hj with h | h
       ·exact (hDM j hs).1 h
       ·have:=(hszl j hs).2;omega
      have hms:∀ j∈mapL mv',j∉ownL (.slice aS m.doms.length cS):=fun j hj hs=>by
       rcases hml j hj with h | h
       ·exact (hDM j hs).2 h
       ·have:=(hszl j hs).2;omega
      have hgg:gg∈ownL (.slice aS m.doms.length cS)∨gg=wc.heap.size+1:=by
       rcases at4 with h | h
       ·left;simp only [ownL];rw [←h];simp [Value.ownBlock]
       ·right;simpa [Value.ownBlock] using h
      have htw:∀ j∈ownL tv',j<wc.heap.size:=fun j hj=>(jQC hset.row j hj).2;have hmw:∀ j∈mapL mv',j<wc.heap.size:=fun j hj=>(tQJ hset j hj).2;have hBy:=hVy.cells.lt;have hggB:gg≠B:=by
       rcases hgg with h | h
       ·intro e;subst e;exact (hAp.1 gg (List.mem_append_right _ h)).1 (by simp)
       ·omega
      have ks:=aQA.setCell W2 ⟨B,2,none⟩ (.slice (some ⟨gg,0,none⟩) (m.doms.length+1) cap);have kall:aQA ([B]++(ownL tD++mapL mD++ownL (.slice aS m.doms.length cS))) wy (W2.setCell ⟨B,2,none⟩ (.slice (some ⟨gg,0,none⟩) (m.doms.length+1) cap)):=
       (((kT.mono (fun i hi=>by have:=hT' i hi;simp at this ⊢;rcases this with q | q | q <;> simp [q])).trans (kA4.mono (by simp))).trans (Hk4.out.mono (fun i hi=>by simp [hi]))).trans (ks.mono (by simp))
      have k5:aQA (ownL (.slice aS m.doms.length cS)++[B]) wc (W2.setCell ⟨B,2,none⟩ (.slice (some ⟨gg,0,none⟩) (m.doms.length+1) cap)):=((kA4.mono (by simp)).trans (Hk4.out.mono (fun i hi=>by simp [hi]))).trans (ks.mono (by simp));have hsetF:=hset.kept k5 (fun j hj hx=>by
       rcases List.mem_append.1 hx with h | h
       ·exact hts j hj h
       ·exact hset.rowA j (by simpa [ownL] using hj) h) (fun j hj hx=>by
       rcases List.mem_append.1 hx with h | h
       ·exact hms j hj h
       ·rcases hset.map with ⟨q,_⟩ | ⟨r,q,_,_,q4,_⟩
        ·rw [q] at hj;simp [mapL] at hj
        ·rw [q] at hj;simp [mapL] at hj;subst hj;exact q4 h)
      have hzF:=bQA Hown4.out ks (fun j hj hx=>by
       have e1:j=B:=(by simpa using hx);have e2:gg=j:=(by simpa [Value.ownBlock] using hj);exact hggB (by rw [e2,e1]))
      refine ⟨?_,[B]++(ownL tD++mapL mD++ownL (.slice aS m.doms.length cS)),(ky.mono (by simp)).trans kall,fun j hj=>(hVy.foot_lt j (by rw [footD];exact List.mem_append_left _ hj)).1⟩;unfold DomTo;rw [if_neg Hr.out];refine ⟨rfl,hVy.addDom kall (fun j hj=>.inl hj) (HB4.out.setCell 2 _) hsetF hzF (fun j hj=>?_) ?_⟩
      ·rcases List.mem_append.1 hj with h | h
       ·rcases List.mem_append.1 h with h | h
        ·rcases htl j h with q | q
         ·left;simp [q]
         ·exact .inr q
        ·rcases hml j h with q | q
         ·left;simp [q]
         ·exact .inr q
       ·have e:j=gg:=(by simpa [ownL,Value.ownBlock] using h);rcases hgg with q | q
        ·left;rw [e];simp [q]
        ·right;omega
      ·rw [List.nodup_append,List.nodup_append];refine ⟨⟨rQG _,mapL_nodup _,fun a ha b hb e=>?_⟩,rQG _,fun a ha b hb e=>?_⟩
       ·subst e;rcases hset.map with ⟨q,_⟩ | ⟨r,q,_,_,_,q5⟩
        ·rw [q] at hb;simp [mapL] at hb
        ·rw [q] at hb;simp [mapL] at hb;subst hb;exact q5 (by simpa [ownL] using ha)
       ·subst e;have e2:a=gg:=(by simpa [ownL,Value.ownBlock] using hb);subst e2;rcases hgg with q | q
        ·rcases List.mem_append.1 ha with h | h
         ·exact hts a h q
         ·exact hms a h q
        ·rcases List.mem_append.1 ha with h | h
         ·have:=htw a h;omega
         ·have:=hmw a h;omega
end
end Go.Proofs.YtgjomknpjigkhaaGreatDoor
