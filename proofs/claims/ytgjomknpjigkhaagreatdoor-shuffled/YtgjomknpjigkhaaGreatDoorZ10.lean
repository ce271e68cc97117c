import Derived.Test.YtgjomknpjigkhaaGreatDoorZ08
import Derived.Test.YtgjomknpjigkhaaGreatDoorZ09
import Derived.Laws.StructEq
import Derived.Deep.DeepCutAuto
namespace Go.Proofs.YtgjomknpjigkhaaGreatDoor
open Go.Proofs.Tryz
set_option maxRecDepth 100000
set_option maxHeartbeats 4000000
section
open Go.RowKit
def F4 (w:World) (base:Nat) (X:List Nat):CM→Value→Prop
 | .dom n z,v=>v=.iface 321 (.agg #[.string (AV n.g),.string (BB n.g),.int .i64 n.line,.string (AV z.g),.string (BB z.g),.int .i64 z.line])
 | .rel n cs,v=>∃ cv,v=.iface 325 (.agg #[.string (AV n.g),.string (BB n.g),.int .i64 n.line,cv])∧w.ownsRow base 129 3 cv cs.length (De cs)∧∀ j,cv.ownBlock=some j→j∉X
 | .clause a ls,v=>∃ hv lv cs,v=.iface 330 (.agg #[.string (AV a.name.g),.string (BB a.name.g),.int .i64 a.name.line,hv,lv])∧w.ownsRow base 129 3 hv a.terms.length (De a.terms)∧(∀ j,hv.ownBlock=some j→j∉X)∧w.ownsRow base 353 5 lv ls.length cs∧(∀ j,lv.ownBlock=some j→j∉X)∧Dk w base X ls cs
theorem F4.keeps {w w':World} {base:Nat} {X:List Nat} {i:CM} {v:Value} {T:List Nat} (h:F4 w base X i v) (k:AA T w w') (hT:∀ j∈T,j∈X∨j<base∨w.heap.size≤j:=by simp):F4 w' base X i v:=by
 have own:∀ {e:TypeId} {size n:Nat} {u:Value} {xs:List Value},w.ownsRow base e size u n xs→(∀ j,u.ownBlock=some j→j∉X)→w'.ownsRow base e size u n xs:=fun h hx=>AH h k (fun j hj hjT=>by
  have:=Bd h j hj;rcases hT j hjT with h' | h' | h'
  ·exact hx j hj h'
  ·omega
  ·omega)
 cases i with
 | dom n z=>exact h
 | rel n cs=>
  obtain ⟨cv,h1,h2,h3⟩:=h;exact ⟨cv,h1,own h2 h3,h3⟩
 | clause a ls=>
  obtain ⟨hv,lv,cs,h1,h2,h3,h4,h5,h6⟩:=h;exact ⟨hv,lv,cs,h1,own h2 h3,h3,own h4 h5,h5,h6.keeps k hT⟩
theorem F4.apart {w:World} {base:Nat} {X Y:List Nat} {i:CM} {v:Value} (h:F4 w base X i v) (hY:∀ j∈Y,j∈X∨w.heap.size≤j):F4 w base Y i v:=by
 have ap:∀ {e:TypeId} {size n:Nat} {u:Value} {xs:List Value},w.ownsRow base e size u n xs→(∀ j,u.ownBlock=some j→j∉X)→∀ j,u.ownBlock=some j→j∉Y:=fun h hx j hj hjY=>by
  have:=Bd h j hj;rcases hY j hjY with h' | h'
  ·exact hx j hj h'
  ·omega
 cases i with
 | dom n z=>exact h
 | rel n cs=>
  obtain ⟨cv,h1,h2,h3⟩:=h;exact ⟨cv,h1,h2,ap h2 h3⟩
 | clause a ls=>
  obtain ⟨hv,lv,cs,h1,h2,h3,h4,h5,h6⟩:=h;exact ⟨hv,lv,cs,h1,h2,ap h2 h3,h4,ap h4 h5,h6.apart hY⟩
theorem Dk.above {w:World} {base:Nat} {X Y:List Nat} {ls:List Dn} {cs:List Value} (h:Dk w base X ls cs) (hY:∀ j∈Y,j<base):Dk w base Y ls cs:=by
 induction ls generalizing cs with
 | nil=>exact h
 | cons l ls ih=>
  obtain ⟨v,rest,h1,h2,h3,h4⟩:=h;exact ⟨v,rest,h1,h2,fun j hj hjY=>by have:=(As h2 j hj).1;have:=hY j hjY;omega,ih h4⟩
theorem F4.above {w:World} {base:Nat} {X Y:List Nat} {i:CM} {v:Value} (h:F4 w base X i v) (hY:∀ j∈Y,j<base):F4 w base Y i v:=by
 have ap:∀ {e:TypeId} {size n:Nat} {u:Value} {xs:List Value},w.ownsRow base e size u n xs→∀ j,u.ownBlock=some j→j∉Y:=fun h j hj hjY=>by
  have:=(As h j hj).1;have:=hY j hjY;omega
 cases i with
 | dom n z=>exact h
 | rel n cs=>
  obtain ⟨cv,h1,h2,h3⟩:=h;exact ⟨cv,h1,h2,ap h2⟩
 | clause a ls=>
  obtain ⟨hv,lv,cs,h1,h2,h3,h4,h5,h6⟩:=h;exact ⟨hv,lv,cs,h1,h2,ap h2,h4,ap h4,h6.above hY⟩
theorem F4.mono {w:World} {base base':Nat} {X:List Nat} {i:CM} {v:Value} (h:F4 w base X i v) (hb:base'≤base):F4 w base' X i v:=by
 cases i with
 | dom n z=>exact h
 | rel n cs=>
  obtain ⟨cv,h1,h2,h3⟩:=h;exact ⟨cv,h1,BZ h2 hb,h3⟩
 | clause a ls=>
  obtain ⟨hv,lv,cs,h1,h2,h3,h4,h5,h6⟩:=h;exact ⟨hv,lv,cs,h1,BZ h2 hb,h3,BZ h4 hb,h5,h6.mono hb⟩
def St (base b g:Nat) (r:Except Nat (CM×List Tn)) (e:Ending) (w':World):Prop:=match r with
 | .ok (i,us)=>∃ v,e=.returned v∧F4 w' base [] i v∧v.oneCell' = true∧HL w' b g us
 | .error l=>e=Cx 5 l
theorem cX {w:World} {b g:Nat} {us:List Tn} (h:HL w b g us) (he:CV us) (hl:us.length≤1000000) (hs:E1 La us=true):Calls prog 199 #[.pointer (some ⟨b,0,none⟩)] w fun e w'=>St w.heap.size b g (Fx us) e w'∧AA [b] w w':=by
 have hT:=AD (DI WQ rfl h he hl);have g1:=Cm My he hs;have hlow:=h.lt;rw [hs] at hT;clear h;unfold Fx;rw [if_pos hs];cases hr1:Ca C8 us.tail with
 | error l=>
  go_in
  go_wp2_with fail
  refine hT.out.mono ?_;rintro e w1 ⟨rfl,hp1,k1⟩;have h2:=AD (Bk (us:=us.tail) GO rfl hp1 g1.2 (by have:=g1.1;omega));rw [hr1] at h2;go_wp2_with fail
  refine h2.out.mono ?_;rintro e w2 ⟨rfl,k2⟩;exact ⟨rfl,rfl,k1.trans k2⟩
 | ok q1=>
  obtain ⟨n,us1⟩:=q1;have g2:=(BK Dg g1.2 hr1).1;simp only;cases hr2:Ca J6 us1 with
  | error l=>
   go_in
   go_wp2_with fail
   refine hT.out.mono ?_;rintro e w1 ⟨rfl,hp1,k1⟩;have h2:=AD (Bk (us:=us.tail) GO rfl hp1 g1.2 (by have:=g1.1;omega));rw [hr1] at h2;go_wp2_with fail
   refine h2.out.mono ?_;rintro e w2 ⟨⟨rfl,hp2⟩,k2⟩;have h3:=AD (Bk SC rfl hp2 g2.2 (by have:=g1.1;have:=g2.1;omega));rw [hr2] at h3;go_wp2_with fail
   refine h3.out.mono ?_;rintro e w3 ⟨rfl,k3⟩;exact ⟨rfl,rfl,(k1.trans k2).trans k3⟩
  | ok q2=>
   obtain ⟨z,us2⟩:=q2;have g3:=(BK Kh g2.2 hr2).1;simp only;cases hr3:Ca Kg us2 with
   | error l=>
    go_in
    go_wp2_with fail
    refine hT.out.mono ?_;rintro e w1 ⟨rfl,hp1,k1⟩;have h2:=AD (Bk (us:=us.tail) GO rfl hp1 g1.2 (by have:=g1.1;omega));rw [hr1] at h2;go_wp2_with fail
    refine h2.out.mono ?_;rintro e w2 ⟨⟨rfl,hp2⟩,k2⟩;have h3:=AD (Bk SC rfl hp2 g2.2 (by have:=g1.1;have:=g2.1;omega));rw [hr2] at h3;go_wp2_with fail
    refine h3.out.mono ?_;rintro e w3 ⟨⟨rfl,hp3⟩,k3⟩;have h4:=AD (Bk N9 rfl (Ds w3 hp3 (.cells #[.string (AV n.g),.string (BB n.g),.int .i64 n.line,.string (AV z.g),.string (BB z.g),.int .i64 z.line] 321)) g3.2 (by have:=g1.1;have:=g2.1;have:=g3.1;omega));rw [hr3] at h4;have kA:=AA.alloc [b] w3 (.cells #[.string (AV n.g),.string (BB n.g),.int .i64 n.line,.string (AV z.g),.string (BB z.g),.int .i64 z.line] 321);unfold Da;go_wp2_with fail
    refine h4.out.mono ?_;rintro e w4 ⟨rfl,k4⟩;exact ⟨rfl,rfl,(((k1.trans k2).trans k3).trans kA).trans k4⟩
   | ok q3=>
    obtain ⟨t3,us3⟩:=q3;go_in
    go_wp2_with fail
    refine hT.out.mono ?_;rintro e w1 ⟨rfl,hp1,k1⟩;have h2:=AD (Bk (us:=us.tail) GO rfl hp1 g1.2 (by have:=g1.1;omega));rw [hr1] at h2;go_wp2_with fail
    refine h2.out.mono ?_;rintro e w2 ⟨⟨rfl,hp2⟩,k2⟩;have h3:=AD (Bk SC rfl hp2 g2.2 (by have:=g1.1;have:=g2.1;omega));rw [hr2] at h3;go_wp2_with fail
    refine h3.out.mono ?_;rintro e w3 ⟨⟨rfl,hp3⟩,k3⟩;have h4:=AD (Bk N9 rfl (Ds w3 hp3 (.cells #[.string (AV n.g),.string (BB n.g),.int .i64 n.line,.string (AV z.g),.string (BB z.g),.int .i64 z.line] 321)) g3.2 (by have:=g1.1;have:=g2.1;have:=g3.1;omega));rw [hr3] at h4;have kA:=AA.alloc [b] w3 (.cells #[.string (AV n.g),.string (BB n.g),.int .i64 n.line,.string (AV z.g),.string (BB z.g),.int .i64 z.line] 321);have hA:=AK.new w3 #[.string (AV n.g),.string (BB n.g),.int .i64 n.line,.string (AV z.g),.string (BB z.g),.int .i64 z.line] 321;have hb3:=hp3.lt;unfold Da;go_wp2_with fail
    refine h4.out.mono ?_;rintro e w4 ⟨⟨rfl,hp4⟩,k4⟩;have hA4:=hA.keeps k4 (by simp;omega);have d0:=hA4.cell 0;have d1:=hA4.cell 1;have d2:=hA4.cell 2;have d3:=hA4.cell 3;have d4:=hA4.cell 4;have d5:=hA4.cell 5;clear hA4 hA;go_wp2_with fail
    go_ret
    exact ⟨⟨_,rfl,rfl,rfl,hp4⟩,(((k1.trans k2).trans k3).trans kA).trans k4⟩
theorem cW {w:World} {b g:Nat} {us:List Tn} (h:HL w b g us) (he:CV us) (hl:us.length≤1000000) (hs0:E1 La us=false) (hs:E1 Ms us=true):Calls prog 199 #[.pointer (some ⟨b,0,none⟩)] w fun e w'=>St w.heap.size b g (Fx us) e w'∧AA [b] w w':=by
 have hT0:=AD (DI WQ rfl h he hl);have g1:=Cm Mi he hs;have hlow:=h.lt;rw [hs0] at hT0;clear h;unfold Fx;rw [if_neg (by rw [hs0];decide),if_pos hs];cases hr1:Ca C8 us.tail with
 | error l=>
  go_in
  go_wp2_with fail
  refine hT0.out.mono ?_;rintro e w0 ⟨rfl,hp0,k0⟩;have hT:=AD (DI (us:=us) Mq rfl hp0 he hl);rw [hs] at hT;go_wp2_with fail
  refine hT.out.mono ?_;rintro e w1 ⟨rfl,hp1,k1⟩;have h2:=AD (Bk (us:=us.tail) GO rfl hp1 g1.2 (by have:=g1.1;omega));rw [hr1] at h2;go_wp2_with fail
  refine h2.out.mono ?_;rintro e w2 ⟨rfl,k2⟩;exact ⟨rfl,rfl,(k0.trans k1).trans k2⟩
 | ok q1=>
  obtain ⟨n,us1⟩:=q1;have g2:=(BK Dg g1.2 hr1).1;simp only;cases hr2:E4 C8 us1 with
  | error l=>
   go_in
   go_wp2_with fail
   refine hT0.out.mono ?_;rintro e w0 ⟨rfl,hp0,k0⟩;have hT:=AD (DI (us:=us) Mq rfl hp0 he hl);rw [hs] at hT;go_wp2_with fail
   refine hT.out.mono ?_;rintro e w1 ⟨rfl,hp1,k1⟩;have h2:=AD (Bk (us:=us.tail) GO rfl hp1 g1.2 (by have:=g1.1;omega));rw [hr1] at h2;go_wp2_with fail
   refine h2.out.mono ?_;rintro e w2 ⟨⟨rfl,hp2⟩,k2⟩;have h3:=AD (IT hp2 g2.2 (by have:=g1.1;have:=g2.1;omega));rw [hr2] at h3;go_wp2_with fail
   refine h3.out.mono ?_;rintro e w3 ⟨rfl,k3⟩;exact ⟨rfl,rfl,((k0.trans k1).trans k2).trans k3⟩
  | ok q2=>
   obtain ⟨cs,us2⟩:=q2;have g3:=LY Dg g2.2 hr2;simp only;cases hr3:Ca Kg us2 with
   | error l=>
    go_in
    go_wp2_with fail
    refine hT0.out.mono ?_;rintro e w0 ⟨rfl,hp0,k0⟩;have hT:=AD (DI (us:=us) Mq rfl hp0 he hl);rw [hs] at hT;go_wp2_with fail
    refine hT.out.mono ?_;rintro e w1 ⟨rfl,hp1,k1⟩;have h2:=AD (Bk (us:=us.tail) GO rfl hp1 g1.2 (by have:=g1.1;omega));rw [hr1] at h2;go_wp2_with fail
    refine h2.out.mono ?_;rintro e w2 ⟨⟨rfl,hp2⟩,k2⟩;have h3:=AD (IT hp2 g2.2 (by have:=g1.1;have:=g2.1;omega));rw [hr2] at h3;go_wp2_with fail
    refine h3.out.mono ?_;rintro e w3 ⟨⟨cv,rfl,own,hp3⟩,k3⟩;obtain ⟨cva,cvc,rfl⟩:=Al own;have h4:=AD (Bk N9 rfl (Ds w3 hp3 (.cells #[.string (AV n.g),.string (BB n.g),.int .i64 n.line,.slice cva cs.length cvc] 325)) g3.2 (by have:=g1.1;have:=g2.1;have:=g3.1;omega));rw [hr3] at h4;have kA:=AA.alloc [b] w3 (.cells #[.string (AV n.g),.string (BB n.g),.int .i64 n.line,.slice cva cs.length cvc] 325);unfold Da;go_wp2_with fail
    refine h4.out.mono ?_;rintro e w4 ⟨rfl,k4⟩;exact ⟨rfl,rfl,((((k0.trans k1).trans k2).trans k3).trans kA).trans k4⟩
   | ok q3=>
    obtain ⟨t3,us3⟩:=q3;go_in
    go_wp2_with fail
    refine hT0.out.mono ?_;rintro e w0 ⟨rfl,hp0,k0⟩;have hT:=AD (DI (us:=us) Mq rfl hp0 he hl);rw [hs] at hT;go_wp2_with fail
    refine hT.out.mono ?_;rintro e w1 ⟨rfl,hp1,k1⟩;have h2:=AD (Bk (us:=us.tail) GO rfl hp1 g1.2 (by have:=g1.1;omega));rw [hr1] at h2;go_wp2_with fail
    refine h2.out.mono ?_;rintro e w2 ⟨⟨rfl,hp2⟩,k2⟩;have h3:=AD (IT hp2 g2.2 (by have:=g1.1;have:=g2.1;omega));rw [hr2] at h3;go_wp2_with fail
    refine h3.out.mono ?_;rintro e w3 ⟨⟨cv,rfl,own,hp3⟩,k3⟩;obtain ⟨cva,cvc,rfl⟩:=Al own;have h4:=AD (Bk N9 rfl (Ds w3 hp3 (.cells #[.string (AV n.g),.string (BB n.g),.int .i64 n.line,.slice cva cs.length cvc] 325)) g3.2 (by have:=g1.1;have:=g2.1;have:=g3.1;omega));rw [hr3] at h4;have kA:=AA.alloc [b] w3 (.cells #[.string (AV n.g),.string (BB n.g),.int .i64 n.line,.slice cva cs.length cvc] 325);have hA:=AK.new w3 #[.string (AV n.g),.string (BB n.g),.int .i64 n.line,.slice cva cs.length cvc] 325;have hb3:=hp3.lt;have hsz:w.heap.size≤w2.heap.size:=by have:=k0.size;have:=k1.size;have:=k2.size;omega
    unfold Da;go_wp2_with fail
    refine h4.out.mono ?_;rintro e w4 ⟨⟨rfl,hp4⟩,k4⟩;have hA4:=hA.keeps k4 (by simp;omega);have d0:=hA4.cell 0;have d1:=hA4.cell 1;have d2:=hA4.cell 2;have d3:=hA4.cell 3;have hown4:=BZ (AH own (kA.trans k4) (fun j hj hT=>by have:=(As own j hj).1;have e:j=b:=(by simpa using hT);omega)) hsz;have Hown4:=AD hown4;clear hA4 hA own hown4;go_wp2_with fail
    go_ret
    exact ⟨⟨_,rfl,⟨_,rfl,Hown4.out,by simp⟩,rfl,hp4⟩,((((k0.trans k1).trans k2).trans k3).trans kA).trans k4⟩
theorem UZ {w:World} {b g:Nat} {us:List Tn} (h:HL w b g us) (he:CV us) (hl:us.length≤1000000) (hs0:E1 La us=false) (hs:E1 Ms us=false):Calls prog 199 #[.pointer (some ⟨b,0,none⟩)] w fun e w'=>St w.heap.size b g (Fx us) e w'∧AA [b] w w':=by
 have hT0:=AD (DI WQ rfl h he hl);have hlow:=h.lt;rw [hs0] at hT0;clear h
 have hi:Fx us=(match MN us with
   | .error l=>.error l
   | .ok (q,vs)=>.ok (.clause q.1 q.2,vs)):=by
  unfold Fx MN;rw [if_neg (by rw [hs0];decide),if_neg (by rw [hs];decide)];cases Fj us with
  | error l=>rfl
  | ok q=>
   obtain ⟨a,vs⟩:=q;simp only;cases GB vs with
   | error l=>rfl
   | ok q=>rfl
 rw [hi];cases hr1:MN us with
 | error l=>
  go_in
  go_wp2_with fail
  refine hT0.out.mono ?_;rintro e w0 ⟨rfl,hp0,k0⟩;have hT:=AD (DI (us:=us) Mq rfl hp0 he hl);rw [hs] at hT;go_wp2_with fail
  refine hT.out.mono ?_;rintro e w1 ⟨rfl,hp1,k1⟩;have h2:=AD (MM (us:=us) hp1 he hl);rw [hr1] at h2;go_wp2_with fail
  refine h2.out.mono ?_;rintro e w2 ⟨rfl,k2⟩;exact ⟨rfl,rfl,(k0.trans k1).trans k2⟩
 | ok q1=>
  obtain ⟨⟨a,ls⟩,us1⟩:=q1;go_in
  go_wp2_with fail
  refine hT0.out.mono ?_;rintro e w0 ⟨rfl,hp0,k0⟩;have hT:=AD (DI (us:=us) Mq rfl hp0 he hl);rw [hs] at hT;go_wp2_with fail
  refine hT.out.mono ?_;rintro e w1 ⟨rfl,hp1,k1⟩;have h2:=AD (MM (us:=us) hp1 he hl);rw [hr1] at h2;go_wp2_with fail
  refine h2.out.mono ?_;rintro e w2 ⟨⟨hv,lv,cs,rfl,own1,_,own2,hla,hp2⟩,k2⟩;have hsz:w.heap.size≤w1.heap.size:=by have:=k0.size;have:=k1.size;omega
  go_wp2_with fail
  go_ret
  exact ⟨⟨_,rfl,⟨hv,lv,cs,rfl,BZ own1 hsz,by simp,BZ own2 hsz,by simp,(hla.mono hsz).apart (fun j hj=>by cases hj)⟩,rfl,hp2⟩,(k0.trans k1).trans k2⟩
theorem WW {w:World} {b g:Nat} {us:List Tn} (h:HL w b g us) (he:CV us) (hl:us.length≤1000000):Calls prog 199 #[.pointer (some ⟨b,0,none⟩)] w fun e w'=>St w.heap.size b g (Fx us) e w'∧AA [b] w w':=by
 cases h1:E1 La us with
 | true=>exact cX h he hl h1
 | false=>
  cases h2:E1 Ms us with
  | true=>exact cW h he hl h1 h2
  | false=>exact UZ h he hl h1 h2
theorem iV:(prog.info? 273).map (fun i=>(i.zero,i.size,i.bytes))=some (some Value.nilIface,1,16):=by kernel_rfl
def Dl (w:World) (base:Nat) (X:List Nat):List CM→List Value→Prop
 | [],vs=>vs=[]
 | i :: is,vs=>∃ v rest,vs=v :: rest∧F4 w base X i v∧Dl w base X is rest
theorem Dl.keeps {w w':World} {base:Nat} {X:List Nat} {is:List CM} {vs:List Value} {T:List Nat} (h:Dl w base X is vs) (k:AA T w w') (hT:∀ j∈T,j∈X∨j<base∨w.heap.size≤j:=by simp):Dl w' base X is vs:=by
 induction is generalizing vs with
 | nil=>exact h
 | cons i is ih=>
  obtain ⟨v,rest,h1,h2,h3⟩:=h;exact ⟨v,rest,h1,h2.keeps k hT,ih h3⟩
theorem Dl.apart {w:World} {base:Nat} {X Y:List Nat} {is:List CM} {vs:List Value} (h:Dl w base X is vs) (hY:∀ j∈Y,j∈X∨w.heap.size≤j):Dl w base Y is vs:=by
 induction is generalizing vs with
 | nil=>exact h
 | cons i is ih=>
  obtain ⟨v,rest,h1,h2,h3⟩:=h;exact ⟨v,rest,h1,h2.apart hY,ih h3⟩
theorem Dl.snoc {w:World} {base:Nat} {X:List Nat} {is:List CM} {vs:List Value} (h:Dl w base X is vs) {i:CM} {v:Value} (h2:F4 w base X i v):Dl w base X (is++[i]) (vs++[v]):=by
 induction is generalizing vs with
 | nil=>
  have:vs=[]:=h;subst this;exact ⟨v,[],rfl,h2,rfl⟩
 | cons x is ih=>
  obtain ⟨u,rest,h1,k2,k3⟩:=h;exact ⟨u,rest++[v],by rw [h1];rfl,k2,ih k3⟩
theorem Dl.mono {w:World} {base base':Nat} {X:List Nat} {is:List CM} {vs:List Value} (h:Dl w base X is vs) (hb:base'≤base):Dl w base' X is vs:=by
 induction is generalizing vs with
 | nil=>exact h
 | cons i is ih=>
  obtain ⟨v,rest,h1,h2,h3⟩:=h;exact ⟨v,rest,h1,h2.mono hb,ih h3⟩
theorem F4.iface {w:World} {base:Nat} {X:List Nat} {i:CM} {v:Value} (h:F4 w base X i v):∃ t x,v=.iface t x:=by
 cases i with
 | dom n z=>exact ⟨_,_,h⟩
 | rel n cs=>obtain ⟨cv,h1,_⟩:=h;exact ⟨_,_,h1⟩
 | clause a ls=>obtain ⟨hv,lv,cs,h1,_⟩:=h;exact ⟨_,_,h1⟩
def X5 (base:Nat) (r:Except Nat (List CM)) (e:Ending) (w':World):Prop:=match r with
 | .ok is=>∃ v vs,e=.returned v∧w'.ownsRow base 273 1 v is.length vs∧Dl w' base v.ownBlock.toList is vs
 | .error l=>e=Cx 5 l
def Sn (d:List CM):Except Nat (List CM)→Except Nat (List CM)
 | .ok r=>.ok (d++r)
 | .error l=>.error l
theorem Ts {w:World} {g c:Nat} {toks:List Tn} (ht:M3 w g 0 toks) (hc:toks.length≤c) (he:CV toks) (hl:toks.length≤1000000):Calls prog 135 #[.slice (some ⟨g,0,none⟩) toks.length c] w fun e w'=>X5 w.heap.size (DO toks.length toks) e w'∧AA [] w w':=by
 obtain ⟨i0,hi0,hz0,hz1,hz2⟩:=info_parts iV;have hglt:g<w.heap.size:=by obtain ⟨cs,h,_⟩:=ht;exact h.lt
 have kA:=AA.alloc [] w (.cells #[.slice (some ⟨g,0,none⟩) toks.length c] 276);have hP0:HL (w.alloc (.cells #[.slice (some ⟨g,0,none⟩) toks.length c] 276)) w.heap.size g toks:=⟨0,c,AK.new w _ 276,hc,ht.keeps kA,by omega⟩;have HP0:=AD hP0;generalize hR:DO toks.length toks=R;have HR:=AD hR;clear hP0 hR;go_in
 go_wp2_with fail
 go_loopw [4] (fun y wr=>∃ (k:Nat) (d:List CM) (vs:List Value) (xs:List Tn),HL wr w.heap.size g xs∧CV xs∧xs.length≤k∧d.length+xs.length≤toks.length∧wr.ownsRow (w.heap.size+1) 273 1 y d.length vs∧Dl wr (w.heap.size+1) y.ownBlock.toList d vs∧AA [] w wr∧w.heap.size+1≤wr.heap.size∧Sn d (DO k xs)=R) (fun _ wr=>aK (wr.cell? ⟨w.heap.size,0,none⟩))
 case atStart=>exact ⟨toks.length,[],[],toks,HP0.out,he,AQ _,by simp,World.ownsRow_nil ..,rfl,kA,by rw [AX];omega,by rw [←HR.out];cases DO toks.length toks <;> rfl⟩
 case round=>
  obtain ⟨k,d,vs,xs,hpx,hex,hkx,hdx,own,hia,kr,hsz,hres⟩:=hrel;have hlen:=hpx.len;obtain ⟨k,rfl⟩:∃ k',k=k' + 1:=by obtain ⟨t,q,rfl⟩:=hex.cons;simp at hkx;exact ⟨k - 1,by omega⟩
  have hne:xs≠[]:=by obtain ⟨_,_,h⟩:=hex.cons;rw [h];simp
  have hS:=AD (LJ mO hpx hne (by omega));have hI:=AD (WW hpx hex (by omega));have Hpx:=AD hpx;have Hlen:=AD hlen;rw [DO] at hres;clear HR HP0 hpx hlen;cases hs:E1 J7 xs with
  | true=>
   rw [hs,if_pos rfl] at hres;rw [hs] at hS;have Hres:=AD hres;clear hres;go_wp2_with fail
   refine hS.out.mono ?_;rintro e w1 ⟨rfl,rfl⟩;go_wp2_with fail
   go_ret
   refine ⟨?_,kr⟩;rw [←Hres.out];show X5 w.heap.size (.ok (d++[])) _ _;rw [BR];exact ⟨_,vs,rfl,BZ own (by omega),hia.mono (by omega)⟩
  | false=>
   rw [hs,if_neg (by decide)] at hres;rw [hs] at hS;cases hr:Fx xs with
   | error l=>
    rw [hr] at hres hI;have Hres:=AD hres;clear hres;go_wp2_with fail
    refine hS.out.mono ?_;rintro e w1 ⟨rfl,rfl⟩;go_wp2_with fail
    refine hI.out.mono ?_;rintro e w2 ⟨rfl,k2⟩;refine ⟨rfl,?_,kr.trans_new k2 (by simp)⟩;rw [←Hres.out];rfl
   | ok q=>
    obtain ⟨it,us1⟩:=q;rw [hr] at hres hI;have g1:=O3 hex hr;have hah:Sn (d++[it]) (DO k us1)=R:=by
     rw [←hres]
     show _=Sn d (match DO k us1 with
      | .error l=>Except.error l
      | .ok r=>.ok (it :: r))
     cases DO k us1 with
     | error l=>rfl
     | ok q=>simp [Sn]
    have Hah:=AD hah;clear hres hah;obtain ⟨ay,cy,rfl⟩:=Al own;go_wp2_with fail
    refine hS.out.mono ?_;rintro e w1 ⟨rfl,rfl⟩;go_wp2_with fail
    refine hI.out.mono ?_;rintro e w2 ⟨⟨iv,rfl,hiv,hone1,hp2⟩,k2⟩;obtain ⟨ity,ix,rfl⟩:=hiv.iface;have hlv:∀ j,(Value.slice ay d.length cy).ownBlock=some j→w.heap.size+1≤j∧j<w1.heap.size:=fun j hj=>Bd own j hj;have kB:=k2.trans (AA.alloc [w.heap.size] w2 (.cells #[.iface ity ix] 273));have ownB:=AH own kB (fun j hj h=>by have:=hlv j hj;have e:j=w.heap.size:=(by simpa using h);omega);have hiaB:=hia.keeps kB (fun j hj=>by have e:j=w.heap.size:=(by simpa using hj);omega);have hivB:F4 (w2.alloc (.cells #[.iface ity ix] 273)) (w.heap.size+1) (Value.slice ay d.length cy).ownBlock.toList it (.iface ity ix):=((hiv.keeps (AA.alloc [] w2 _)).above (fun j hj=>by have:=hlv j (by simpa using hj);omega)).mono hsz;have hp3:=Ds w2 hp2 (.cells #[.iface ity ix] 273);have hone:∀ (j:Nat) (u:Value),[Value.iface ity ix][j]?=some u→(w2.alloc (.cells #[.iface ity ix] 273)).cell? ((⟨w2.heap.size,0,none⟩:Addr).add j)=some u:=by
     intro j u hu;rw [Addr.add_lit,Ag,(AK.new w2 #[.iface ity ix] 273).cell];match j with
     | 0=>simpa using hu
     | j+1=>simp at hu
    have hszB:w.heap.size+1≤(w2.alloc (.cells #[.iface ity ix] 273)).heap.size:=by rw [AX];have:=k2.size;omega
    go_wp2_with (at_builtin;refine wpList_append_own_at _ rfl _ _ 203 rfl (w.heap.size+1) 273 i0 Value.nilIface 1 16 underlying203 hi0 hz0 hz1 hz2 rfl (by decide) _ d.length vs rfl ownB ⟨w2.heap.size,0,none⟩ 1 1 [.iface ity ix] rfl (by simp) hone (by simp [Value.oneCell']) (by unfold maxLen;omega) (by omega) hszB ?_)
    intro v' W2 own2 grow2 nil2 at2;have k3:=grownBy_keeps' grow2 (Value.slice ay d.length cy).ownBlock.toList (fun r e=>.inl (by simp [e]));have kf:AA [] w W2:=(kr.trans_new kB (by simp)).trans_new k3 fun j hj=>.inr (by have:=hlv j (by simpa using hj);omega);have hp4:=hp3.keeps k3 (fun hT=>by have:=hlv _ (by simpa using hT);omega) (fun hT=>by have:=hlv _ (by simpa using hT);omega);have hY:∀ j∈v'.ownBlock.toList,j∈(Value.slice ay d.length cy).ownBlock.toList∨(w2.alloc (.cells #[.iface ity ix] 273)).heap.size≤j:=fun j hj=>by
     rcases at2 with h | h
     ·left;rw [←h];exact hj
     ·right;rw [h] at hj;simp at hj;rw [AX];omega
    have hall:=((hiaB.snoc hivB).apart (Y:=v'.ownBlock.toList++(Value.slice ay d.length cy).ownBlock.toList) (fun j hj=>by
     rcases AC.1 hj with h | h
     ·exact hY j h
     ·exact .inl h)).keeps k3 (fun j hj=>.inl (AT _ hj))
    have hall2:=hall.apart (Y:=v'.ownBlock.toList) (fun j hj=>.inl (AN _ hj));have Hall:=AD hall2;have Hp4:=AD hp4;have Hl4:=AD hp4.len;have hsz2:w.heap.size+1≤W2.heap.size:=At hszB k3.size;clear hall hall2 hY hiaB hivB hone ownB hp4 hp3 hiv hia own;go_wp2_with fail
    go_roundw
    ·exact ⟨k,d++[it],vs++[.iface ity ix],us1,Hp4.out,g1.2,by have:=g1.1;omega,by have:=g1.1;rw [AJ,Ah];omega,by rw [AJ,Ah];exact own2,Hall.out,kf,hsz2,Hah.out⟩
    ·rw [Hl4.out,Hlen.out];have:=g1.1;omega
def eS (s:ByteArray):Value:=.string s
theorem UM (a b:ByteArray):(a.toList == b.toList)=decide (a=b):=by rw [Bg,Vi,decide_eq_true_iff]
theorem Qs (a b:ByteArray):(a == b)=decide (a=b):=by rw [beq_toListBytes,UM]
theorem ZE:LD prog 9 eS where
 check em a w:=MapKept.run_checkKey underlying9 (by simp [MapKept.IsKey,eS]) em 9999
 eq a b w:=by
  simp only [Op.equal,Op.maxDepth,eS];rw [run_equalIn_string w 9999 9 a b underlying9,UM]
 under:=⟨_,underlying9,fun a b=>.inr (by simp only [Instr.sameNow,eS];rw [Qs])⟩
 stays a w:=by simp [Instr.keyThatStays,eS,Instr.sameBits,Qs]
def Rx (ns:List ByteArray):List (ByteArray×Int):=ns.zipIdx.map fun p=>(p.1,(p.2:Int))
def Dp (ns:List ByteArray) (s:ByteArray):Option Nat:=ns.findIdx? fun x=>decide (x=s)
theorem P9 (ns:List ByteArray) (s:ByteArray) (k:Nat):DD ((ns.zipIdx k).map fun p=>(p.1,(p.2:Int))) s=(Dp ns s).map (fun i=>((i+k:Nat):Int)):=by
 induction ns generalizing k with
 | nil=>rfl
 | cons x ns ih=>
  rw [List.zipIdx_cons,Au,ER,ih];unfold Dp;rw [List.findIdx?_cons];by_cases h:x=s
  ·simp [h]
  ·rw [if_neg h];simp only [h,decide_false,BQ,if_false];cases List.findIdx? (fun x=>decide (x=s)) ns with
   | none=>rfl
   | some i=>simp;omega
theorem O6 (ns:List ByteArray) (s:ByteArray):DD (Rx ns) s=(Dp ns s).map (fun i:Nat=>(i:Int)):=by
 have:=P9 ns s 0;exact this
theorem Yx {ns:List ByteArray} {s:ByteArray} (h:Dp ns s=none):put (Rx ns) s (ns.length:Int)=Rx (ns++[s]):=by
 unfold put;rw [O6,h];simp [Rx,List.zipIdx_append]
theorem B7 {A:Type} (l:List (ByteArray×A)) (s:ByteArray):Dp (l.map Prod.fst) s=CP l s:=by
 unfold Dp CP;rw [List.findIdx?_map];rfl
structure F8 (w:World) (base:Nat) (X:List Nat) (tv mv:Value) (ns:List ByteArray):Prop where
 row:w.ownsRow base 9 1 tv ns.length (ns.map eS)
 rowA:∀ j,tv.ownBlock=some j→j∉X
 map:(mv=.map none∧ns=[])∨∃ r,mv=.map (some r)∧Bi eS eI w r (Rx ns)∧base≤r∧r∉X∧tv.ownBlock≠some r
theorem FC {w:World} {B o:Nat} {ns:List ByteArray} {a:Option Addr} {c:Nat} (hc:w.cell? ⟨B,o,none⟩=some (.slice a ns.length c)):Calls prog 254 #[.pointer (some ⟨B,o,none⟩)] w fun e w'=>e=.returned (.int .i64 ns.length)∧w' = w:=by
 go_in
 go_wp2_with fail
 go_ret
 exact ⟨rfl,rfl⟩
theorem UF (s:ByteArray) (w:World):(Instr.lookup 137 (.map none) (.string s) true).run prog w=.ok (.tuple #[.int .i64 0,.bool false]) w:=by
 have hc:=ZE.check true s w;have hf:=FZ (ev:=eI) ZE s w [] [] rfl;simp only [eS] at hc hf;unfold Instr.lookup;simp only [Sem.run_bind,run_underlying underlying137,Result.andThen_ok,Sem.run_pure];rw [show (#[]:Array MapEntry).isEmpty=true from rfl,hc];simp only [Result.andThen_ok];rw [hf];simp only [Result.andThen_ok,spot,Sem.run_bind,Kp,Sem.run_pure,if_true]
theorem EP {w:World} {B o:Nat} {tv mv:Value} {base:Nat} {X:List Nat} {ns:List ByteArray} (h:F8 w base X tv mv ns) (hc:w.cell? ⟨B,o+1,none⟩=some mv) (s:ByteArray):Calls prog 77 #[.pointer (some ⟨B,o,none⟩),.string s] w fun e w'=>e=.returned (.tuple #[.int .i64 ((Dp ns s).getD 0:Nat),.bool (Dp ns s).isSome])∧w' = w:=by
 rcases h.map with ⟨rfl,rfl⟩ | ⟨r,rfl,hm,_⟩
 ·have hl:=UF s w;go_in
  go_wp2_with fail
  go_ret2
  exact ⟨rfl,rfl⟩
 ·have hl:=EM (P:=prog) underlying137 ZE (z:=.int .i64 0) Kp hm s true;rw [O6] at hl;simp only [eS,if_true] at hl;cases hp:Dp ns s with
  | none=>
   rw [hp] at hl;simp only [Cb,CB,B6] at hl;go_in
   go_wp2_with fail
   go_ret2
   exact ⟨rfl,rfl⟩
  | some i=>
   rw [hp] at hl;simp only [A5,BU,CG,eI] at hl;go_in
   go_wp2_with fail
   go_ret2
   exact ⟨rfl,rfl⟩
theorem F8.keeps {w w':World} {base:Nat} {X T:List Nat} {tv mv:Value} {ns:List ByteArray} (h:F8 w base X tv mv ns) (k:AA T w w') (hT:∀ j∈T,j∈X∨j<base∨w.heap.size≤j:=by simp):F8 w' base X tv mv ns:=by
 refine ⟨AH h.row k (fun j hj hjT=>?_),h.rowA,?_⟩
 ·have:=Bd h.row j hj;rcases hT j hjT with h' | h' | h'
  ·exact h.rowA j hj h'
  ·omega
  ·omega
 ·rcases h.map with hm | ⟨r,h1,h2,h3,h4,h5⟩
  ·exact .inl hm
  ·refine .inr ⟨r,h1,h2.of_heap (k.block r h2.lt (fun hjT=>?_)),h3,h4,h5⟩;rcases hT r hjT with h' | h' | h'
   ·exact h4 h'
   ·omega
   ·have:=h2.lt;omega
structure Po (w:World) (base:Nat) (X:List Nat) (B o:Nat) (cs:Array Value) (tv mv:Value) (ns:List ByteArray) (s:ByteArray) (w':World):Prop where
 set:∃ tv' mv',AK w' B ((cs.setIfInBounds (o+1) mv').setIfInBounds o tv')∧F8 w' base X tv' mv' (ns++[s])∧(∀ j,tv'.ownBlock=some j→tv.ownBlock=some j∨w.heap.size≤j)∧(∀ r,mv' = .map (some r)→mv=.map (some r)∨w.heap.size≤r)
 keep:∃ T,AA T w w'∧∀ j∈T,j=B∨tv.ownBlock=some j∨mv=.map (some j)
theorem XQ {W:World} {s:ByteArray}:∀ (j:Nat) (u:Value),[Value.string s][j]?=some u→(W.alloc (.cells #[.string s] 9)).cell? ((⟨W.heap.size,0,none⟩:Addr).add j)=some u:=by
 intro j u hu;rw [Addr.add_lit,Ag,(AK.new W #[.string s] 9).cell];match j with
 | 0=>simpa using hu
 | j+1=>simp at hu
theorem cA (w:World):(Instr.makeMap 137 none).run prog w=.ok (.map (some w.heap.size)) (w.alloc (.map #[] 0)):=by
 first
  | rfl
  | (simp [Instr.makeMap,go_sem];done)
  | kernel_rfl
theorem map_nil (r:Option Nat) (w:World):(binOp .eql 137 (.map r) (.map none)).run prog w=.ok (.bool r.isNone) w:=by
 simp only [binOp];have:(Op.equalIn 10000 137 (.map r) (.map none)).run prog w=.ok r.isNone w:=by
  unfold Op.equalIn;simp only [Sem.run_bind,run_underlying underlying137,Result.andThen_ok];cases r <;> rfl
 simp [Op.equal,Op.maxDepth,this]
theorem fA {w:World} {base:Nat} {X:List Nat} {B o r:Nat} {cs:Array Value} {tv:Value} {ns:List ByteArray} {s:ByteArray} (hB:AK w B cs) (h0:cs[o]?=some tv) (h1:cs[o+1]?=some (.map (some r))) (hBX:B∈X) (hX:∀ j∈X,j<w.heap.size) (hs:F8 w base X tv (.map (some r)) ns) (hm:Bi eS eI w r (Rx ns)) (hl:ns.length≤1000000) (hp:Dp ns s=none) :
  Calls prog 72 #[.pointer (some ⟨B,o,none⟩),.string s] w fun e w'=>e=.returned (.int .i64 ns.length)∧Po w base X B o cs tv (.map (some r)) ns s w':=by
 obtain ⟨i0,hi0,hz0,hz1,hz2⟩:=info_parts lJ;have hlk:=EM (P:=prog) underlying137 ZE (z:=.int .i64 0) Kp hm s true;rw [O6,hp] at hlk;simp only [eS,if_true,Cb,CB,B6] at hlk;obtain ⟨ob,hrun,hmm⟩:=Fm (P:=prog) underlying137 ZE hm s (ns.length:Int);rw [Yx hp] at hmm;simp only [eS,eI] at hrun;have c0:w.cell? ⟨B,o,none⟩=some tv:=by rw [hB.cell];exact h0
 have c1:w.cell? ⟨B,o+1,none⟩=some (.map (some r)):=by rw [hB.cell];exact h1
 obtain ⟨ay,cy,hty⟩:=Al hs.row;subst hty;have hrB:r≠B:=by
  rintro rfl;obtain ⟨t,ht⟩:=hB;obtain ⟨es,clock,hh,_⟩:=hm;rw [ht] at hh;cases hh
 obtain ⟨hr1,hr2⟩:r∉X∧(Value.slice ay ns.length cy).ownBlock≠some r:=by
  rcases hs.map with ⟨h,_⟩ | ⟨r',h,_,_,h4,h5⟩
  ·cases h
  ·cases h;exact ⟨h4,h5⟩
 have kb:=AA.blk w r ob;have hB2:=hB.keeps kb (by simp;exact fun e=>hrB e.symm);have own2:=AH hs.row kb (fun j hj hT=>hr2 (by have e:j=r:=(by simpa using hT);rw [←e];exact hj));generalize hW:blk w r ob=W at *;have d0:W.cell? ⟨B,o,none⟩=some (.slice ay ns.length cy):=by rw [hB2.cell];exact h0
 have kA:=AA.alloc [] W (.cells #[.string s] 9);have own3:=AH own2 kA;have hbase:base≤w.heap.size:=by
  rcases hs.map with ⟨h,_⟩ | ⟨r',h,h2,h3,_⟩
  ·cases h
  ·have:=h2.lt;omega
 have hszW:w.heap.size≤W.heap.size:=kb.size;have Hmm:=AD hmm;have hq:=map_nil (some r) w;have hBs:=hB.lt;clear hmm;go_in
 go_wp2_with (at_builtin;refine wpList_append_own_at _ rfl _ _ 35 rfl base 9 i0 (.string ⟨#[]⟩) 1 16 underlying35 hi0 hz0 hz1 hz2 rfl (by decide) _ ns.length (ns.map eS) rfl own3 ⟨W.heap.size,0,none⟩ 1 1 [.string s] rfl (by simp) XQ (by simp [Value.oneCell']) (by unfold maxLen;omega) (by omega) (by rw [AX];omega) ?_)
 intro v' W2 own4 grow4 nil4 at4;have k4:=grownBy_keeps' grow4 (Value.slice ay ns.length cy).ownBlock.toList (fun r e=>.inl (by simp [e]));have hB4:=(hB2.keeps kA).keeps k4 (fun hT=>hs.rowA B (by simpa using hT) hBX);obtain ⟨gg,cap,rfl⟩:=EL own4;have e0:W2.cell? ⟨B,o,none⟩=some (.slice ay ns.length cy):=by rw [hB4.cell];exact h0
 have f0:=hB4.frozen o;have ks:=AA.setCell W2 ⟨B,o,none⟩ (.slice (some ⟨gg,0,none⟩) (ns.length+1) cap);have hgg:(Value.slice ay ns.length cy).ownBlock=some gg∨gg=W.heap.size+1:=by
  rcases at4 with h | h
  ·left;rw [←h];rfl
  ·right;simpa [Value.ownBlock] using h
 have hrlt:=hm.lt;have hggX:gg∉X:=by
  rcases hgg with h | h
  ·exact hs.rowA gg h
  ·intro hx;have:=hX gg hx;omega
 have hggr:gg≠r:=by
  rcases hgg with h | h
  ·rintro rfl;exact hr2 h
  ·omega
 have hmF:Bi eS eI (W2.setCell ⟨B,o,none⟩ (.slice (some ⟨gg,0,none⟩) (ns.length+1) cap)) r (Rx (ns++[s])):=by
  have k5:AA ((Value.slice ay ns.length cy).ownBlock.toList++[B]) W (W2.setCell ⟨B,o,none⟩ (.slice (some ⟨gg,0,none⟩) (ns.length+1) cap)):=((kA.mono (by simp)).trans (k4.mono (fun i hi=>AN _ hi))).trans (ks.mono (by simp));refine Hmm.out.of_heap (k5.block r Hmm.out.lt (fun hT=>?_));rcases AC.1 hT with hT | hT
  ·exact hr2 (by simpa using hT)
  ·exact hrB (by simpa using hT)
 have ownF:=AH own4 ks (fun j hj hT=>by
  have e1:j=B:=(by simpa using hT);have e2:gg=j:=(by simpa [Value.ownBlock] using hj)
  exact hggX (by rw [e2,e1];exact hBX))
 have hBF:=hB4.setCell o (.slice (some ⟨gg,0,none⟩) (ns.length+1) cap);have hsame:cs.setIfInBounds (o+1) (.map (some r))=cs:=by
  apply Array.ext_getElem?;intro i;rw [AZ];split
  ·rename_i h;subst h;split
   ·exact h1.symm
   ·rename_i hlt;rw [DN (by omega)] at h1;cases h1
  ·rfl
 have kF:AA ([B,r]++(Value.slice ay ns.length cy).ownBlock.toList) w (W2.setCell ⟨B,o,none⟩ (.slice (some ⟨gg,0,none⟩) (ns.length+1) cap)):=(((kb.mono (by simp)).trans (kA.mono (by simp))).trans (k4.mono (fun i hi=>AT _ hi))).trans (ks.mono (by simp))
 have Hend:Hid (Po w base X B o cs (.slice ay ns.length cy) (.map (some r)) ns s (W2.setCell ⟨B,o,none⟩ (.slice (some ⟨gg,0,none⟩) (ns.length+1) cap))):=AD ⟨⟨.slice (some ⟨gg,0,none⟩) (ns.length+1) cap,.map (some r),by rw [hsame];exact hBF,⟨by rw [AJ,Ah,Am];exact ownF,fun j hj=>by have e:gg=j:=(by simpa [Value.ownBlock] using hj);rw [←e];exact hggX,.inr ⟨r,rfl,hmF,by
   rcases hs.map with ⟨h,_⟩ | ⟨r',h,_,h3,_⟩
   ·cases h
   ·cases h;exact h3,hr1,by simp [Value.ownBlock];exact hggr⟩⟩,fun j hj=>by
    have e:gg=j:=(by simpa [Value.ownBlock] using hj);rcases hgg with h | h
    ·left;rw [←e];exact h
    ·right;omega,fun r' h=>.inl h⟩,⟨_,kF,fun j hj=>by
    rcases AC.1 hj with h | h
    ·simp at h;rcases h with h | h
     ·exact .inl h
     ·exact .inr (.inr (by rw [h]))
    ·exact .inr (.inl (by simpa using h))⟩⟩
 clear ownF hmF hBF hB4 kF ks own4 grow4 at4 k4 hB2 own2 own3 kA;go_wp2_with fail
 go_ret
 exact ⟨rfl,Hend.out⟩
theorem kH {w:World} {base:Nat} {X:List Nat} {B o:Nat} {cs:Array Value} {tv:Value} {s:ByteArray} (hB:AK w B cs) (h0:cs[o]?=some tv) (h1:cs[o+1]?=some (.map none)) (hBX:B∈X) (hX:∀ j∈X,j<w.heap.size) (hbase:base≤w.heap.size) (hs:F8 w base X tv (.map none) []) :
  Calls prog 72 #[.pointer (some ⟨B,o,none⟩),.string s] w fun e w'=>e=.returned (.int .i64 0)∧Po w base X B o cs tv (.map none) [] s w':=by
 obtain ⟨i0,hi0,hz0,hz1,hz2⟩:=info_parts lJ;have hlk:=UF s w;have hq:=map_nil none w;have hmk:=cA w;have hBs:=hB.lt;have c0:w.cell? ⟨B,o,none⟩=some tv:=by rw [hB.cell];exact h0
 have c1:w.cell? ⟨B,o+1,none⟩=some (.map none):=by rw [hB.cell];exact h1
 have f1:=hB.frozen (o+1);obtain ⟨ay,cy,hty⟩:=Al hs.row;subst hty;have kA1:=AA.alloc [] w (.map #[] 0);have c1':(w.alloc (.map #[] 0)).cell? ⟨B,o+1,none⟩=some (.map none):=by rw [(hB.keeps kA1).cell];exact h1
 have f1':=(hB.keeps kA1).frozen (o+1);have ks1:=AA.setCell w ⟨B,o+1,none⟩ (.map (some w.heap.size));have hB1:=hB.setCell (o+1) (.map (some w.heap.size));have hm1:Bi eS eI ((w.setCell ⟨B,o+1,none⟩ (.map (some w.heap.size))).alloc (.map #[] 0)) w.heap.size ([]:List (ByteArray×Int)):=by
  have:=Bi.new (ek:=eS) (ev:=eI) (w.setCell ⟨B,o+1,none⟩ (.map (some w.heap.size))) 0;rw [OR] at this;exact this
 have hB2:=hB1.keeps (AA.alloc [] _ (.map #[] 0));have row2:=AH (AH hs.row ks1 (fun j hj hT=>hs.rowA j hj (by have e:j=B:=(by simpa using hT);rw [e];exact hBX))) (AA.alloc [] (w.setCell ⟨B,o+1,none⟩ (.map (some w.heap.size))) (.map #[] 0));have k2:AA [B] w ((w.setCell ⟨B,o+1,none⟩ (.map (some w.heap.size))).alloc (.map #[] 0)):=ks1.trans (AA.alloc [B] _ _);have hsz2:((w.setCell ⟨B,o+1,none⟩ (.map (some w.heap.size))).alloc (.map #[] 0)).heap.size=w.heap.size+1:=by rw [AX,OR]
 obtain ⟨ob,hrun,hmm⟩:=Fm (P:=prog) underlying137 ZE hm1 s (0:Int);have hput:put ([]:List (ByteArray×Int)) s 0=Rx ([]++[s]):=rfl;rw [hput] at hmm;simp only [eS,eI] at hrun;have g0:((w.setCell ⟨B,o+1,none⟩ (.map (some w.heap.size))).alloc (.map #[] 0)).cell? ⟨B,o,none⟩=some (.slice ay 0 cy):=by
  rw [hB2.cell,Array.getElem?_setIfInBounds_ne (by omega)];exact h0
 have g1:((w.setCell ⟨B,o+1,none⟩ (.map (some w.heap.size))).alloc (.map #[] 0)).cell? ⟨B,o+1,none⟩=some (.map (some w.heap.size)):=by
  rw [hB2.cell,Array.getElem?_setIfInBounds_self,if_pos];rcases BP (o+1) cs.size with h | h
  ·exact h
  ·rw [DN h] at h1;cases h1
 have kb:=AA.blk ((w.setCell ⟨B,o+1,none⟩ (.map (some w.heap.size))).alloc (.map #[] 0)) w.heap.size ob;have hB3:=hB2.keeps kb (by simp;omega);have row3:=AH row2 kb (fun j hj hT=>by have e:j=w.heap.size:=(by simpa using hT);have:=(Bd hs.row j hj).2;omega);have hszb:(blk ((w.setCell ⟨B,o+1,none⟩ (.map (some w.heap.size))).alloc (.map #[] 0)) w.heap.size ob).heap.size=w.heap.size+1:=by rw [←hsz2];simp [blk]
 generalize hW:blk ((w.setCell ⟨B,o+1,none⟩ (.map (some w.heap.size))).alloc (.map #[] 0)) w.heap.size ob=W at *;have d0:W.cell? ⟨B,o,none⟩=some (.slice ay 0 cy):=by rw [hB3.cell,Array.getElem?_setIfInBounds_ne (by omega)];exact h0
 have kA:=AA.alloc [] W (.cells #[.string s] 9);have own3:=AH row3 kA;have Hmm:=AD hmm;have Hszb:=AD hszb;clear hszb;have Hk2:=AD k2;clear hmm hm1 k2;go_in
 go_wp2_with (at_builtin;refine wpList_append_own_at _ rfl _ _ 35 rfl base 9 i0 (.string ⟨#[]⟩) 1 16 underlying35 hi0 hz0 hz1 hz2 rfl (by decide) _ 0 [] rfl own3 ⟨W.heap.size,0,none⟩ 1 1 [.string s] rfl (by simp) XQ (by simp [Value.oneCell']) (by unfold maxLen;omega) (by omega) (by rw [AX];have:=Hszb.out;omega) ?_)
 intro v' W2 own4 grow4 nil4 at4;have hszb:=Hszb.out;have k4:=grownBy_keeps' grow4 (Value.slice ay 0 cy).ownBlock.toList (fun r e=>.inl (by simp [e]));have hB4:=(hB3.keeps kA).keeps k4 (fun hT=>hs.rowA B (by simpa using hT) hBX);obtain ⟨gg,cap,rfl⟩:=EL own4;have e0:W2.cell? ⟨B,o,none⟩=some (.slice ay 0 cy):=by rw [hB4.cell,Array.getElem?_setIfInBounds_ne (by omega)];exact h0
 have f0:=hB4.frozen o;have ks:=AA.setCell W2 ⟨B,o,none⟩ (.slice (some ⟨gg,0,none⟩) (0+1) cap);have hgg:(Value.slice ay 0 cy).ownBlock=some gg∨gg=W.heap.size+1:=by
  rcases at4 with h | h
  ·left;rw [←h];rfl
  ·right;simpa [Value.ownBlock] using h
 have hggX:gg∉X:=by
  rcases hgg with h | h
  ·exact hs.rowA gg h
  ·intro hx;have:=hX gg hx;omega
 have hggr:gg≠w.heap.size:=by
  rcases hgg with h | h
  ·have:=(Bd hs.row gg h).2;omega
  ·omega
 have hmF:Bi eS eI (W2.setCell ⟨B,o,none⟩ (.slice (some ⟨gg,0,none⟩) (0+1) cap)) w.heap.size (Rx ([]++[s])):=by
  have k5:AA ((Value.slice ay 0 cy).ownBlock.toList++[B]) W (W2.setCell ⟨B,o,none⟩ (.slice (some ⟨gg,0,none⟩) (0+1) cap)):=((kA.mono (by simp)).trans (k4.mono (fun i hi=>AN _ hi))).trans (ks.mono (by simp));refine Hmm.out.of_heap (k5.block w.heap.size Hmm.out.lt (fun hT=>?_));rcases AC.1 hT with hT | hT
  ·have:=(Bd hs.row _ (by simpa using hT)).2;omega
  ·have e:w.heap.size=B:=(by simpa using hT);omega
 have ownF:=AH own4 ks (fun j hj hT=>by
  have e1:j=B:=(by simpa using hT);have e2:gg=j:=(by simpa [Value.ownBlock] using hj)
  exact hggX (by rw [e2,e1];exact hBX))
 have hBF:=hB4.setCell o (.slice (some ⟨gg,0,none⟩) (0+1) cap);have kF:AA ([B]++(Value.slice ay 0 cy).ownBlock.toList) w (W2.setCell ⟨B,o,none⟩ (.slice (some ⟨gg,0,none⟩) (0+1) cap)):=((((Hk2.out.mono (T':=[B]++(Value.slice ay 0 cy).ownBlock.toList) (by simp)).trans_new kb (by simp)).trans (kA.mono (by simp))).trans (k4.mono (fun i hi=>AT _ hi))).trans (ks.mono (by simp))
 have Hend:Hid (Po w base X B o cs (.slice ay 0 cy) (.map none) [] s (W2.setCell ⟨B,o,none⟩ (.slice (some ⟨gg,0,none⟩) (0+1) cap))):=AD ⟨⟨.slice (some ⟨gg,0,none⟩) (0+1) cap,.map (some w.heap.size),hBF,⟨ownF,fun j hj=>by have e:gg=j:=(by simpa [Value.ownBlock] using hj);rw [←e];exact hggX,.inr ⟨w.heap.size,rfl,hmF,hbase,fun hx=>by have:=hX _ hx;omega,by simp [Value.ownBlock];exact hggr⟩⟩,fun j hj=>by
    have e:gg=j:=(by simpa [Value.ownBlock] using hj);rcases hgg with h | h
    ·left;rw [←e];exact h
    ·right;omega,fun r' h=>.inr (by cases h;omega)⟩,⟨_,kF,fun j hj=>by
    rcases AC.1 hj with h | h
    ·exact .inl (by simpa using h)
    ·exact .inr (.inl (by simpa using h))⟩⟩
 clear hszb ownF hmF hBF hB4 kF ks own4 grow4 at4 k4 hB2 own3 kA;go_wp2_with fail
 go_ret
 exact ⟨rfl,Hend.out⟩
theorem Kk {w:World} {base:Nat} {X:List Nat} {B o:Nat} {cs:Array Value} {tv mv:Value} {ns:List ByteArray} {s:ByteArray} (hB:AK w B cs) (h0:cs[o]?=some tv) (h1:cs[o+1]?=some mv) (hBX:B∈X) (hX:∀ j∈X,j<w.heap.size) (hbase:base≤w.heap.size) (hs:F8 w base X tv mv ns) (hl:ns.length≤1000000) (hp:Dp ns s=none) :
  Calls prog 72 #[.pointer (some ⟨B,o,none⟩),.string s] w fun e w'=>e=.returned (.int .i64 ns.length)∧Po w base X B o cs tv mv ns s w':=by
 rcases hs.map with ⟨h,h'⟩ | ⟨r,h,hm,_⟩
 ·subst h;subst h';exact kH hB h0 h1 hBX hX hbase hs
 ·subst h;exact fA hB h0 h1 hBX hX hs hm hl hp
theorem DZ {w:World} (t:Tn) (c:Int):Calls prog 335 #[Da t,.bool false,.int .i64 c] w fun e w'=>e=.returned (.tuple #[])∧w' = w.alloc (.cells #[.string (AV t.g),.string (BB t.g),.int .i64 t.line] 129):=by
 unfold Da;go_in
 go_wp2_with fail
 go_end0
 exact ⟨rfl,rfl⟩
theorem DT {w:World} (t:Tn) (c:Int):Calls prog 335 #[Da t,.bool true,.int .i64 c] w fun e w'=>e=Cx c t.line∧w' = w.alloc (.cells #[.string (AV t.g),.string (BB t.g),.int .i64 t.line] 129):=by
 have hg:=AD (fun w=>Ek (w:=w) c t.line);unfold Da;go_in
 go_wp2_with fail
 refine (hg.out _).mono ?_;rintro e w1 ⟨rfl,rfl⟩;exact ⟨rfl,rfl,rfl⟩
theorem Jq {w:World} (t:Tn) (s:ByteArray) (hg:t.g=.int s) (hw:Pp t.g):Calls prog 140 #[Da t] w fun e w'=>e=.returned (.int .i64 (Cp t.g))∧w' = w.alloc (.cells #[.string (AV t.g),.string (BB t.g),.int .i64 t.line] 129):=by
 rw [hg] at hw;obtain ⟨hd,hs1,hs2⟩:=hw;have hn:Cp t.g=If s s.size:=by rw [hg];rfl
 have htx:BB t.g=s:=by rw [hg];rfl
 rw [hn];unfold Da;rw [htx];generalize AV t.g=K;generalize t.line=ln;have Hd:=AD hd;clear hd hn htx hg;go_in
 go_wp2_with fail
 go_loopw [3,8] (fun x y wr=>∃ i:Nat,x=.int .i64 (If s i)∧y=.int .i64 i∧i≤s.size∧wr=w.alloc (.cells #[.string K,.string s,.int .i64 ln] 129)) (fun _ y _=>s.size - (intOf y).toNat)
 case atStart=>exact ⟨0,rfl,rfl,by omega,rfl⟩
 case round=>
  obtain ⟨i,rfl,rfl,hi,rfl⟩:=hrel;by_cases hil:i<s.size
  ·have hiI:(i:Int)<s.size:=(by omega);have hl:=LX hil;have hdi:=Hd.out i hil;have hb:48≤Dw s i∧Dw s i≤57:=by simp only [CU,A1,decide_eq_true_eq] at hdi;exact hdi
   obtain ⟨hb1,hb2⟩:=hb;have hr:=Jr Hd.out (k:=i) (by omega) hs2;have Hstep:Hid (If s (i+1)=10 * If s i+(Dw s i - 48)):=AD (by rw [If,Ow]);generalize If s i=V at hr Hstep ⊢;obtain ⟨hr1,hr2⟩:=hr;clear hdi;go_wp2_with fail
   go_roundw
   ·exact ⟨i+1,by rw [Hstep.out],by simp,by omega,trivial⟩
   ·simp only [intOf];omega
  ·have hiI:¬ (i:Int)<s.size:=(by omega);have e:i=s.size:=(by omega);subst e;go_wp2_with fail
   go_ret
   exact ⟨rfl,rfl⟩
theorem HW {w:World} {B:Nat} {cs:Array Value} {base:Nat} {X:List Nat} {tD mD tN mN:Value} {ds ns:List ByteArray} (hB:AK w B cs) (h1:cs[1]?=some mD) (h4:cs[4]?=some mN) (hd:F8 w base X tD mD ds) (hn:F8 w base X tN mN ns) (s:ByteArray) :
  Calls prog 336 #[.pointer (some ⟨B,0,none⟩),.string s] w fun e w'=>e=.returned (.bool ((Dp ds s).isSome || (Dp ns s).isSome))∧w' = w:=by
 have hp1:=AD (EP (B:=B) (o:=0) hd (by rw [hB.cell];exact h1) s);have hp2:=AD (EP (B:=B) (o:=3) hn (by rw [hB.cell];exact h4) s);cases e1:(Dp ds s).isSome with
 | true=>
  rw [e1] at hp1;go_in
  go_wp2_with fail
  refine hp1.out.mono ?_;rintro e w1 ⟨rfl,rfl⟩;go_wp2_with fail
  refine hp2.out.mono ?_;rintro e w2 ⟨rfl,rfl⟩;go_wp2_with fail
  go_ret
  exact ⟨rfl,rfl⟩
 | false=>
  rw [e1] at hp1;go_in
  go_wp2_with fail
  refine hp1.out.mono ?_;rintro e w1 ⟨rfl,rfl⟩;go_wp2_with fail
  refine hp2.out.mono ?_;rintro e w2 ⟨rfl,rfl⟩;go_wp2_with fail
  go_ret
  exact ⟨rfl,rfl⟩
def Aa (v:Value):List Nat:=v.ownBlock.toList
def mapL:Value→List Nat | .map (some r)=>[r] | _=>[]
def Fh (l:List Int):List Value:=l.map fun n=>.int .i64 n
def Ft (l:List Nat):List Value:=l.map fun n:Nat=>Value.int .i64 (n:Int)
def Ey (w:World) (base:Nat) (X:List Nat):List (ByteArray×List Nat)→List Value→Prop
 | [],vs=>vs=[]
 | r :: rs,vs=>∃ v rest,vs=v :: rest∧w.ownsRow base 3 1 v r.2.length (Ft r.2)∧(∀ j∈Aa v,j∉X)∧Ey w base X rs rest
def Z7 (x:BN):List Value:=[.bool x.isVar,.int .i64 x.num]
def EA (xs:List BN):List Value:=xs.flatMap Z7
def EU (w:World) (base:Nat) (X:List Nat):List (BW×Bool)→List Value→Prop
 | [],vs=>vs=[]
 | l :: ls,vs=>∃ v rest,vs=[.int .i64 (l.1.rel:Int),v,.bool l.2]++rest∧w.ownsRow base 220 2 v l.1.terms.length (EA l.1.terms)∧(∀ j∈Aa v,j∉X)∧EU w base X ls rest
def Du (w:World) (base:Nat) (X:List Nat):List Ac→List Value→Prop
 | [],vs=>vs=[]
 | c :: cs,vs=>∃ hv lv ls rest,vs=[.int .i64 (c.head.rel:Int),hv,lv]++rest∧w.ownsRow base 220 2 hv c.head.terms.length (EA c.head.terms)∧(∀ j∈Aa hv,j∉X)∧w.ownsRow base 279 3 lv c.lits.length ls∧(∀ j∈Aa lv,j∉X)∧EU w base X c.lits ls∧Du w base X cs rest
section
variable {w w':World} {base:Nat} {X Y T:List Nat}
theorem MA {e:TypeId} {size n:Nat} {u:Value} {xs:List Value} (h:w.ownsRow base e size u n xs) (hx:∀ j∈Aa u,j∉X) (k:AA T w w') (hT:∀ j∈T,j∈X∨j<base∨w.heap.size≤j):w'.ownsRow base e size u n xs:=
 AH h k (fun j hj hjT=>by
  have:=Bd h j hj;rcases hT j hjT with h' | h' | h'
  ·exact hx j (by simp [Aa,hj]) h'
  ·omega
  ·omega)
theorem KN {e:TypeId} {size n:Nat} {u:Value} {xs:List Value} (h:w.ownsRow base e size u n xs) (hx:∀ j∈Aa u,j∉X) (hY:∀ j∈Y,j∈X∨w.heap.size≤j):∀ j∈Aa u,j∉Y:=fun j hj hjY=>by
 have:=Bd h j (by simpa [Aa] using hj);rcases hY j hjY with h' | h'
 ·exact hx j hj h'
 ·omega
theorem Ey.keeps {rs:List (ByteArray×List Nat)} {vs:List Value} (h:Ey w base X rs vs) (k:AA T w w') (hT:∀ j∈T,j∈X∨j<base∨w.heap.size≤j:=by simp):Ey w' base X rs vs:=by
 induction rs generalizing vs with
 | nil=>exact h
 | cons r rs ih=>
  obtain ⟨v,rest,h1,h2,h3,h4⟩:=h;exact ⟨v,rest,h1,MA h2 h3 k hT,h3,ih h4⟩
theorem Ey.apart {rs:List (ByteArray×List Nat)} {vs:List Value} (h:Ey w base X rs vs) (hY:∀ j∈Y,j∈X∨w.heap.size≤j):Ey w base Y rs vs:=by
 induction rs generalizing vs with
 | nil=>exact h
 | cons r rs ih=>
  obtain ⟨v,rest,h1,h2,h3,h4⟩:=h;exact ⟨v,rest,h1,h2,KN h2 h3 hY,ih h4⟩
theorem Ey.snoc {rs:List (ByteArray×List Nat)} {vs:List Value} (h:Ey w base X rs vs) {r:ByteArray×List Nat} {v:Value} (h2:w.ownsRow base 3 1 v r.2.length (Ft r.2)) (h3:∀ j∈Aa v,j∉X):Ey w base X (rs++[r]) (vs++[v]):=by
 induction rs generalizing vs with
 | nil=>
  have e:vs=[]:=h;subst e;exact ⟨v,[],rfl,h2,h3,rfl⟩
 | cons x rs ih=>
  obtain ⟨u,rest,k1,k2,k3,k4⟩:=h;exact ⟨u,rest++[v],by rw [k1];rfl,k2,k3,ih k4⟩
theorem Ey.at {rs:List (ByteArray×List Nat)} {vs:List Value} (h:Ey w base X rs vs) {i:Nat} {r:ByteArray×List Nat} (hr:rs[i]?=some r):∃ v,vs[i]?=some v∧w.ownsRow base 3 1 v r.2.length (Ft r.2)∧∀ j∈Aa v,j∉X:=by
 induction rs generalizing vs i with
 | nil=>simp at hr
 | cons x rs ih=>
  obtain ⟨v,rest,h1,h2,h3,h4⟩:=h;subst h1;cases i with
  | zero=>simp at hr;subst hr;exact ⟨v,rfl,h2,h3⟩
  | succ i=>obtain ⟨u,k1,k2⟩:=ih h4 (by simpa using hr);exact ⟨u,by simpa using k1,k2⟩
theorem EU.keeps {ls:List (BW×Bool)} {vs:List Value} (h:EU w base X ls vs) (k:AA T w w') (hT:∀ j∈T,j∈X∨j<base∨w.heap.size≤j:=by simp):EU w' base X ls vs:=by
 induction ls generalizing vs with
 | nil=>exact h
 | cons r rs ih=>
  obtain ⟨v,rest,h1,h2,h3,h4⟩:=h;exact ⟨v,rest,h1,MA h2 h3 k hT,h3,ih h4⟩
theorem EU.apart {ls:List (BW×Bool)} {vs:List Value} (h:EU w base X ls vs) (hY:∀ j∈Y,j∈X∨w.heap.size≤j):EU w base Y ls vs:=by
 induction ls generalizing vs with
 | nil=>exact h
 | cons r rs ih=>
  obtain ⟨v,rest,h1,h2,h3,h4⟩:=h;exact ⟨v,rest,h1,h2,KN h2 h3 hY,ih h4⟩
theorem EU.snoc {ls:List (BW×Bool)} {vs:List Value} (h:EU w base X ls vs) {l:BW×Bool} {v:Value} (h2:w.ownsRow base 220 2 v l.1.terms.length (EA l.1.terms)) (h3:∀ j∈Aa v,j∉X):EU w base X (ls++[l]) (vs++[.int .i64 (l.1.rel:Int),v,.bool l.2]):=by
 induction ls generalizing vs with
 | nil=>
  have e:vs=[]:=h;subst e;exact ⟨v,[],rfl,h2,h3,rfl⟩
 | cons x rs ih=>
  obtain ⟨u,rest,k1,k2,k3,k4⟩:=h;exact ⟨u,rest++[.int .i64 (l.1.rel:Int),v,.bool l.2],by rw [k1];simp,k2,k3,ih k4⟩
theorem Du.keeps {cs:List Ac} {vs:List Value} (h:Du w base X cs vs) (k:AA T w w') (hT:∀ j∈T,j∈X∨j<base∨w.heap.size≤j:=by simp):Du w' base X cs vs:=by
 induction cs generalizing vs with
 | nil=>exact h
 | cons r rs ih=>
  obtain ⟨hv,lv,ls,rest,h1,h2,h3,h4,h5,h6,h7⟩:=h;exact ⟨hv,lv,ls,rest,h1,MA h2 h3 k hT,h3,MA h4 h5 k hT,h5,h6.keeps k hT,ih h7⟩
theorem Du.apart {cs:List Ac} {vs:List Value} (h:Du w base X cs vs) (hY:∀ j∈Y,j∈X∨w.heap.size≤j):Du w base Y cs vs:=by
 induction cs generalizing vs with
 | nil=>exact h
 | cons r rs ih=>
  obtain ⟨hv,lv,ls,rest,h1,h2,h3,h4,h5,h6,h7⟩:=h;exact ⟨hv,lv,ls,rest,h1,h2,KN h2 h3 hY,h4,KN h4 h5 hY,h6.apart hY,ih h7⟩
theorem Du.snoc {cs:List Ac} {vs:List Value} (h:Du w base X cs vs) {c:Ac} {hv lv:Value} {ls:List Value} (h2:w.ownsRow base 220 2 hv c.head.terms.length (EA c.head.terms)) (h3:∀ j∈Aa hv,j∉X) (h4:w.ownsRow base 279 3 lv c.lits.length ls) (h5:∀ j∈Aa lv,j∉X) (h6:EU w base X c.lits ls):Du w base X (cs++[c]) (vs++[.int .i64 (c.head.rel:Int),hv,lv]):=by
 induction cs generalizing vs with
 | nil=>
  have e:vs=[]:=h;subst e;exact ⟨hv,lv,ls,[],rfl,h2,h3,h4,h5,h6,rfl⟩
 | cons x rs ih=>
  obtain ⟨a,b,c',rest,k1,k2,k3,k4,k5,k6,k7⟩:=h;exact ⟨a,b,c',rest++[.int .i64 (c.head.rel:Int),hv,lv],by rw [k1];simp,k2,k3,k4,k5,k6,ih k7⟩
end
def Do (B:Nat) (tD mD sz tN mN co cl ln:Value):List Nat:=[B]++Aa tD++mapL mD++Aa sz++Aa tN++mapL mN++Aa co++Aa cl++Aa ln
structure IG (w:World) (base B:Nat) (m:Mean) (tD mD sz tN mN co cl ln:Value) (cvs kvs:List Value):Prop where
 cells:AK w B #[tD,mD,sz,tN,mN,co,cl,ln]
 low:base≤B
 foot:(Do B tD mD sz tN mN co cl ln).Nodup
 doms:F8 w base [B] tD mD (m.doms.map Prod.fst)
 sizes:w.ownsRow base 3 1 sz m.doms.length (Fh (m.doms.map Prod.snd))
 names:F8 w base [B] tN mN (m.rels.map Prod.fst)
 cols:w.ownsRow base 40 1 co m.rels.length cvs
 colsA:Ey w base (Do B tD mD sz tN mN co cl ln) m.rels cvs
 cls:w.ownsRow base 154 3 cl m.clauses.length kvs
 clsA:Du w base (Do B tD mD sz tN mN co cl ln) m.clauses kvs
 lines:w.ownsRow base 3 1 ln m.clauses.length (Ft (m.clauses.map (·.line)))
def B5 (w:World) (base B:Nat) (m:Mean):Prop:=∃ tD mD sz tN mN co cl ln cvs kvs,IG w base B m tD mD sz tN mN co cl ln cvs kvs
theorem H6 {w:World} {base:Nat} {X:List Nat} {tv mv:Value} {ns:List ByteArray} (h:F8 w base X tv mv ns):∀ j∈mapL mv,base≤j∧j<w.heap.size:=fun j hj=>by
 rcases h.map with ⟨h1,_⟩ | ⟨r,h1,h2,h3,_⟩
 ·rw [h1] at hj;simp [mapL] at hj
 ·rw [h1] at hj;simp [mapL] at hj;subst hj;exact ⟨h3,h2.lt⟩
theorem DJ {w:World} {base:Nat} {e:TypeId} {size n:Nat} {v:Value} {xs:List Value} (h:w.ownsRow base e size v n xs):∀ j∈Aa v,base≤j∧j<w.heap.size:=fun j hj=>Bd h j (by simpa [Aa] using hj)
theorem IG.foot_lt {w:World} {base B:Nat} {m:Mean} {tD mD sz tN mN co cl ln:Value} {cvs kvs:List Value} (h:IG w base B m tD mD sz tN mN co cl ln cvs kvs):∀ j∈Do B tD mD sz tN mN co cl ln,base≤j∧j<w.heap.size:=fun j hj=>by
 simp only [Do,AC,AF] at hj;rcases hj with (((((((hj | hj) | hj) | hj) | hj) | hj) | hj) | hj) | hj
 ·subst hj;exact ⟨h.low,h.cells.lt⟩
 ·exact DJ h.doms.row j hj
 ·exact H6 h.doms j hj
 ·exact DJ h.sizes j hj
 ·exact DJ h.names.row j hj
 ·exact H6 h.names j hj
 ·exact DJ h.cols j hj
 ·exact DJ h.cls j hj
 ·exact DJ h.lines j hj
theorem F8.kept {w w':World} {base:Nat} {X T:List Nat} {tv mv:Value} {ns:List ByteArray} (h:F8 w base X tv mv ns) (k:AA T w w') (h1:∀ j∈Aa tv,j∉T) (h2:∀ j∈mapL mv,j∉T):F8 w' base X tv mv ns:=by
 refine ⟨AH h.row k (fun j hj=>h1 j (by simp [Aa,hj])),h.rowA,?_⟩;rcases h.map with hm | ⟨r,a1,a2,a3,a4,a5⟩
 ·exact .inl hm
 ·exact .inr ⟨r,a1,a2.of_heap (k.block r a2.lt (h2 r (by rw [a1];simp [mapL]))),a3,a4,a5⟩
theorem IG.keeps {w w':World} {base B:Nat} {m:Mean} {tD mD sz tN mN co cl ln:Value} {cvs kvs:List Value} {T:List Nat} (h:IG w base B m tD mD sz tN mN co cl ln cvs kvs) (k:AA T w w') (hT:∀ j∈T,j<base∨w.heap.size≤j:=by simp):IG w' base B m tD mD sz tN mN co cl ln cvs kvs:=by
 have hT':∀ j,base≤j∧j<w.heap.size→j∉T:=fun j hj hjT=>by have:=hT j hjT;omega
 have own:∀ {e:TypeId} {size n:Nat} {u:Value} {xs:List Value},w.ownsRow base e size u n xs→w'.ownsRow base e size u n xs:=fun h=>AH h k (fun j hj=>hT' j (Bd h j hj));exact ⟨h.cells.keeps k (hT' B ⟨h.low,h.cells.lt⟩),h.low,h.foot,h.doms.kept k (fun j hj=>hT' j (DJ h.doms.row j hj)) (fun j hj=>hT' j (H6 h.doms j hj)),own h.sizes,h.names.kept k (fun j hj=>hT' j (DJ h.names.row j hj)) (fun j hj=>hT' j (H6 h.names j hj)),own h.cols,h.colsA.keeps k (fun j hj=>.inr (hT j hj)),own h.cls,h.clsA.keeps k (fun j hj=>.inr (hT j hj)),own h.lines⟩
theorem B5.keeps {w w':World} {base B:Nat} {m:Mean} {T:List Nat} (h:B5 w base B m) (k:AA T w w') (hT:∀ j∈T,j<base∨w.heap.size≤j:=by simp):B5 w' base B m:=by
 obtain ⟨a,b,c,d,e,f,g,i,x,y,h⟩:=h;exact ⟨a,b,c,d,e,f,g,i,x,y,h.keeps k hT⟩
theorem L1 {o : Oper} {a : Act} {w : World} (f : Nat) (xs : Array Operand) (tys : Array TypeId) (hop : o.op = .call { callee := .value (.func f), args := xs, argTypes := tys }) (fn : Func) (hf : prog.funcs[f]? = some fn) (hname : (fn.name == "runtime.NumGoroutine") = false) (hbody : fn.body.isNone = false) (vs : List Value) (hx : xs.toList.map a.eval = vs) : (execOp a.eval o).run prog w = .ok (.enter f vs.toArray) w := by
 have hx':xs.map a.eval=vs.toArray:=by subst hx;apply Array.ext';rw [Array.toList_map]
 have h1:a.eval (.func f)=.func (.func f) #[] #[]:=rfl
 have hn' : ¬ fn.name = "runtime.NumGoroutine" := by simpa using hname
 have hb':¬ fn.body=none:=by intro e;rw [e] at hbody;cases hbody
 simp only [execOp,hop,resolve,hx',h1,Deferred.ofValue,invoke,callFunc];simp [hf];rw [if_neg hn',if_neg hb']
theorem A2 {ops : Array Oper} {o : Oper} {a : Act} {w : World} {K : Act → World → Prop} {Q : Exit → Act → World → Prop} {E : Prop} (hg : o.guard = none) (f : Nat) (xs : Array Operand) (tys : Array TypeId) (hop : o.op = .call { callee := .value (.func f), args := xs, argTypes := tys }) (fn : Func) (hf : prog.funcs[f]? = some fn) (hname : (fn.name == "runtime.NumGoroutine") = false) (hbody : fn.body.isNone = false) (vs : List Value) (hx : xs.toList.map a.eval = vs)
  (h:Calls prog f vs.toArray w fun
   | .returned v,w''=>K (a.put o.dst v) w''
   | .panicked chain,w''=>Q (.panic chain) a w''
   | .outgrown,_=>LetsOut Q):if Region.wanted o (yielded ops a.tmps)=true then Oper.wp prog o a w K Q else E:=by
 have hw:Region.wanted o (yielded ops a.tmps)=true:=by simp [Region.wanted,hg]
 rw [if_pos hw];unfold Oper.wp;rw [L1 f xs tys hop fn hf hname hbody vs hx];exact h
theorem Fd {ops : Array Oper} {o : Oper} {a : Act} {w : World} {K : Act → World → Prop} {Q : Exit → Act → World → Prop} {E : Prop} (hg : o.guard = none) (f : Nat) (xs : Array Operand) (tys : Array TypeId) (hop : o.op = .call { callee := .value (.func f), args := xs, argTypes := tys }) (fn : Func) (hf : prog.funcs[f]? = some fn) (hname : (fn.name == "runtime.NumGoroutine") = false) (hbody : fn.body.isNone = false) (vs : List Value) (hx : xs.toList.map a.eval = vs)
  (h:Calls prog f vs.toArray w fun
   | .returned _,_=>False
   | .panicked chain,w''=>Q (.panic chain) a w''
   | .outgrown,_=>LetsOut Q) (_:Hid False→K (a.put o.dst undef) w):if Region.wanted o (yielded ops a.tmps)=true then Oper.wp prog o a w K Q else E:=by
 refine A2 hg f xs tys hop fn hf hname hbody vs hx (h.mono ?_);intro e w' he;cases e <;> first | exact he | exact he.elim
def YD (base B:Nat) (r:Except I0 Mean) (e:Ending) (w':World):Prop:=match r with
 | .ok m=>e=.returned (.tuple #[])∧B5 w' base B m
 | .error f=>e=Cx f.1 f.2
theorem dW {w:World} {base B:Nat} {m:Mean} (h:B5 w base B m) (n z:Tn) (h4:m.doms.length=4):Calls prog 334 #[.agg #[.string (AV n.g),.string (BB n.g),.int .i64 n.line,.string (AV z.g),.string (BB z.g),.int .i64 z.line],.pointer (some ⟨B,0,none⟩)] w fun e w'=>e=Cx 6 n.line∧AA [] w w':=by
 obtain ⟨tD,mD,sz,tN,mN,co,cl,ln,cvs,kvs,hV⟩:=h;have kA:=AA.alloc [] w (.cells #[.string (AV n.g),.string (BB n.g),.int .i64 n.line,.string (AV z.g),.string (BB z.g),.int .i64 z.line] 321);obtain ⟨aD,cD,hD⟩:=Al hV.doms.row;have hlen:=AD (fun (w':World) (k:AA [] w w')=>FC (w:=w') (B:=B) (o:=0) (ns:=m.doms.map Prod.fst) (a:=aD) (c:=cD) (by rw [(hV.cells.keeps k).cell,←hD];rfl));have hBl:=hV.cells.lt;rw [AY,h4] at hlen;have hno:=AD (fun (w:World)=>DT (w:=w) n 6);clear hV;go_in
 go_wp2_with fail
 go_region_law (first
  | (refine A2 rfl 254 _ _ rfl _ func254 (by kernel_rfl) (by kernel_rfl) [.pointer (some ⟨B,0,none⟩)] rfl ?_
     refine (hlen.out _ (kA.trans (AA.drew _ _))).mono ?_
     rintro e w1 ⟨rfl,rfl⟩)
  | (refine Fd rfl 335 _ _ rfl _ func335 (by kernel_rfl) (by kernel_rfl) [Da n,.bool true,.int .i64 6] rfl ?_ ?_
     ·refine (hno.out _).mono ?_;rintro e w1 ⟨rfl,rfl⟩;exact ⟨rfl,rfl,(kA.trans (AA.drew _ _)).trans (AA.alloc [] _ _)⟩
     intro hf))
 all_goals exact (hf.out).elim
theorem ZW {w:World} {base B:Nat} {m:Mean} (h:B5 w base B m) (n z:Tn) (h4:¬ m.doms.length=4) (ht:m.taken (BB n.g)=true):Calls prog 334 #[.agg #[.string (AV n.g),.string (BB n.g),.int .i64 n.line,.string (AV z.g),.string (BB z.g),.int .i64 z.line],.pointer (some ⟨B,0,none⟩)] w fun e w'=>e=Cx 7 n.line∧AA [] w w':=by
 obtain ⟨tD,mD,sz,tN,mN,co,cl,ln,cvs,kvs,hV⟩:=h;have kA:=AA.alloc [] w (.cells #[.string (AV n.g),.string (BB n.g),.int .i64 n.line,.string (AV z.g),.string (BB z.g),.int .i64 z.line] 321);have hA:=AK.new w #[.string (AV n.g),.string (BB n.g),.int .i64 n.line,.string (AV z.g),.string (BB z.g),.int .i64 z.line] 321;obtain ⟨aD,cD,hD⟩:=Al hV.doms.row;have hlen:=AD (fun (w':World) (k:AA [] w w')=>FC (w:=w') (B:=B) (o:=0) (ns:=m.doms.map Prod.fst) (a:=aD) (c:=cD) (by rw [(hV.cells.keeps k).cell,←hD];rfl));have htk:=AD (fun (w':World) (k:AA [] w w')=>HW (hV.cells.keeps k) rfl rfl ((hV.keeps k).doms) ((hV.keeps k).names) (BB n.g));rw [B7,B7] at htk;change (_ || _)=true at ht;have ht':((CP m.doms (BB n.g)).isSome || (CP m.rels (BB n.g)).isSome)=true:=ht;rw [ht'] at htk;have hBl:=hV.cells.lt;rw [AY] at hlen;have h4I:(((m.doms.length:Nat):Int) == 4)=false:=by rw [beq_eq_false_iff_ne];omega
 have hno:=AD (fun (w:World)=>DZ (w:=w) n 6);have hyes:=AD (fun (w:World)=>DT (w:=w) n 7);clear hV ht ht';go_in
 go_upto_region 1 with fail
 go_cut [] (fun wc=>AA [] w wc∧AK wc w.heap.size #[.string (AV n.g),.string (BB n.g),.int .i64 n.line,.string (AV z.g),.string (BB z.g),.int .i64 z.line])
 case first=>
  go_region_law (first
   | (refine A2 rfl 254 _ _ rfl _ func254 (by kernel_rfl) (by kernel_rfl) [.pointer (some ⟨B,0,none⟩)] rfl ?_
      refine (hlen.out _ (kA.trans (AA.drew _ _))).mono ?_
      rintro e w1 ⟨rfl,rfl⟩)
   | (refine A2 rfl 335 _ _ rfl _ func335 (by kernel_rfl) (by kernel_rfl) [Da n,.bool false,.int .i64 6] rfl ?_
      refine (hno.out _).mono ?_
      rintro e w1 ⟨rfl,rfl⟩))
  all_goals
   go_wp2_with fail
   go_meet
   exact ⟨(kA.trans (AA.drew _ _)).trans (AA.alloc [] _ _),(hA.keeps (AA.drew [] _)).keeps (AA.alloc [] _ _)⟩
 case rest=>
  obtain ⟨k1,hA1⟩:=hcut;have d0:=hA1.cell 0;have d1:=hA1.cell 1;have d2:=hA1.cell 2;go_wp2_with fail
  go_region_law (first
   | (refine A2 rfl 336 _ _ rfl _ func336 (by kernel_rfl) (by kernel_rfl) [.pointer (some ⟨B,0,none⟩),.string (BB n.g)] rfl ?_
      refine (htk.out _ (k1.trans (AA.drew _ _))).mono ?_
      rintro e w1 ⟨rfl,rfl⟩)
   | (refine Fd rfl 335 _ _ rfl _ func335 (by kernel_rfl) (by kernel_rfl) [Da n,.bool true,.int .i64 7] rfl ?_ ?_
      ·refine (hyes.out _).mono ?_;rintro e w1 ⟨rfl,rfl⟩;exact ⟨rfl,rfl,(k1.trans (AA.drew _ _)).trans (AA.alloc [] _ _)⟩
      intro hf))
  all_goals exact (hf.out).elim
theorem GE (v:Value):(Aa v).Nodup:=by
 unfold Aa;cases v.ownBlock with
 | none=>exact List.Pairwise.nil
 | some x=>simp
theorem LV (v:Value):(mapL v).Nodup:=by
 unfold mapL;split
 ·simp
 ·exact List.Pairwise.nil
theorem Mk {A L R L':List Nat} {n:Nat} (h:(A++L++R).Nodup) (hlt:∀ j∈A++R,j<n) (hL:L'.Nodup) (hs:∀ j∈L',j∈L∨n≤j):(A++L'++R).Nodup:=by
 rw [BJ] at h ⊢;obtain ⟨h1,h2,h3⟩:=h;rw [BJ] at h1 ⊢;obtain ⟨h4,h5,h6⟩:=h1;refine ⟨⟨h4,hL,fun a ha b hb e=>?_⟩,h2,fun a ha b hb e=>?_⟩
 ·subst e;rcases hs a hb with h | h
  ·exact h6 a ha a h rfl
  ·have:=hlt a (AN _ ha);omega
 ·subst e;rcases AC.1 ha with h | h
  ·exact h3 a (AN _ h) a hb rfl
  ·rcases hs a h with h' | h'
   ·exact h3 a (AT _ h') a hb rfl
   ·have:=hlt a (AT _ hb);omega
theorem Cn {A L R:List Nat} (h:(A++L++R).Nodup):(∀ j∈L,j∉A∧j∉R)∧∀ j∈R,j∉A∧j∉L:=by
 rw [BJ] at h;obtain ⟨h1,h2,h3⟩:=h;rw [BJ] at h1;obtain ⟨h4,h5,h6⟩:=h1;exact ⟨fun j hj=>⟨fun ha=>h6 j ha j hj rfl,fun hr=>h3 j (AT _ hj) j hr rfl⟩,fun j hj=>⟨fun ha=>h3 j (AN _ ha) j hj rfl,fun hl=>h3 j (AT _ hl) j hj rfl⟩⟩
def HZ (tN mN co cl ln:Value):List Nat:=Aa tN++mapL mN++Aa co++Aa cl++Aa ln
theorem KG (B:Nat) (tD mD sz tN mN co cl ln:Value):Do B tD mD sz tN mN co cl ln=[B]++(Aa tD++mapL mD++Aa sz)++HZ tN mN co cl ln:=by simp [Do,HZ]
theorem IG.addDom {w w':World} {base B:Nat} {m:Mean} {tD mD sz tN mN co cl ln tD' mD' sz':Value} {cvs kvs:List Value} {T:List Nat} (h:IG w base B m tD mD sz tN mN co cl ln cvs kvs) {s:ByteArray} {d:Int} (k:AA T w w') (hT:∀ j∈T,j∈[B]++(Aa tD++mapL mD++Aa sz)∨w.heap.size≤j)
  (hc:AK w' B #[tD',mD',sz',tN,mN,co,cl,ln]) (hs:F8 w' base [B] tD' mD' (m.doms.map Prod.fst++[s])) (hz:w'.ownsRow base 3 1 sz' (m.doms.length+1) (Fh (m.doms.map Prod.snd)++[.int .i64 d]))
  (hn:∀ j∈Aa tD'++mapL mD'++Aa sz',j∈Aa tD++mapL mD++Aa sz∨w.heap.size≤j) (hd:(Aa tD'++mapL mD'++Aa sz').Nodup):B5 w' base B { m with doms:=m.doms++[(s,d)] }:=by
 have hf:=h.foot;rw [KG] at hf;have hlt:=h.foot_lt;rw [KG] at hlt;have hAp:=Cn hf;have hBr:B∉HZ tN mN co cl ln:=fun hx=>(hAp.2 B hx).1 (by simp);have hTr:∀ j∈HZ tN mN co cl ln,j∉T:=fun j hj hjT=>by
  rcases hT j hjT with h' | h'
  ·rcases AC.1 h' with h' | h'
   ·exact (hAp.2 j hj).1 h'
   ·exact (hAp.2 j hj).2 h'
  ·have:=(hlt j (AT _ hj)).2;omega
 have hfN:(Do B tD' mD' sz' tN mN co cl ln).Nodup:=by
  rw [KG];refine Mk (n:=w.heap.size) hf (fun j hj=>?_) hd hn;rcases AC.1 hj with h' | h'
  ·exact (hlt j (AN _ (AN _ h'))).2
  ·exact (hlt j (AT _ h')).2
 have hXT:∀ j∈T,j∈Do B tD mD sz tN mN co cl ln∨j<base∨w.heap.size≤j:=fun j hj=>by
  rcases hT j hj with h' | h'
  ·left;rw [KG];exact AN _ h'
  ·exact .inr (.inr h')
 have hY:∀ j∈Do B tD' mD' sz' tN mN co cl ln++Do B tD mD sz tN mN co cl ln,j∈Do B tD mD sz tN mN co cl ln∨w.heap.size≤j:=fun j hj=>by
  rcases AC.1 hj with hj | hj
  ·rw [KG] at hj ⊢;rcases AC.1 hj with h' | h'
   ·rcases AC.1 h' with h'' | h''
    ·exact .inl (AN _ (AN _ h''))
    ·rcases hn j h'' with q | q
     ·exact .inl (AN _ (AT _ q))
     ·exact .inr q
   ·exact .inl (AT _ h')
  ·exact .inl hj
 have own:∀ {e:TypeId} {size n:Nat} {u:Value} {xs:List Value},w.ownsRow base e size u n xs→(∀ j∈Aa u,j∈HZ tN mN co cl ln)→w'.ownsRow base e size u n xs:=fun h hr=>AH h k (fun j hj=>hTr j (hr j (by simp [Aa,hj])));refine ⟨tD',mD',sz',tN,mN,co,cl,ln,cvs,kvs,hc,h.low,hfN,by rw [Am];exact hs,by rw [AJ,Ah,Am,Fh,Am];exact hz,h.names.kept k (fun j hj=>hTr j (by simp [HZ,hj])) (fun j hj=>hTr j (by simp [HZ,hj])),own h.cols (fun j hj=>by simp [HZ,hj]),?_,own h.cls (fun j hj=>by simp [HZ,hj]),?_,own h.lines (fun j hj=>by simp [HZ,hj])⟩
 ·exact (((h.colsA.apart hY).keeps k (fun j hj=>by
   rcases hXT j hj with h' | h'
   ·exact .inl (AT _ h')
   ·exact .inr h'))).apart (fun j hj=>.inl (AN _ hj))
 ·exact (((h.clsA.apart hY).keeps k (fun j hj=>by
   rcases hXT j hj with h' | h'
   ·exact .inl (AT _ h')
   ·exact .inr h'))).apart (fun j hj=>.inl (AN _ hj))
theorem Mu:(prog.info? 3).map (fun i=>(i.zero,i.size,i.bytes))=some (some (.int .i64 0),1,8):=by kernel_rfl
theorem OA {W:World} {x:Value}:∀ (j:Nat) (u:Value),[x][j]?=some u→(W.alloc (.cells #[x] 3)).cell? ((⟨W.heap.size,0,none⟩:Addr).add j)=some u:=by
 intro j u hu;rw [Addr.add_lit,Ag,(AK.new W #[x] 3).cell];match j with
 | 0=>simpa using hu
 | j+1=>simp at hu
def VL (base B:Nat) (m:Mean) (n z:Tn) (e:Ending) (w':World):Prop:=if Cp z.g<1∨8<Cp z.g then e=Cx 9 z.line else e=.returned (.tuple #[])∧B5 w' base B { m with doms:=m.doms++[(BB n.g,Cp z.g)] }
set_option maxHeartbeats 8000000 in
theorem dV {w:World} {base B:Nat} {m:Mean} (h:B5 w base B m) (hbase:base≤w.heap.size) (n z:Tn) {zs:ByteArray} (hzg:z.g=.int zs) (hzw:Pp z.g) (h4:¬ m.doms.length=4) (h4l:m.doms.length≤4) (ht:m.taken (BB n.g)=false):Calls prog 334 #[.agg #[.string (AV n.g),.string (BB n.g),.int .i64 n.line,.string (AV z.g),.string (BB z.g),.int .i64 z.line],.pointer (some ⟨B,0,none⟩)] w fun e w'=>VL base B m n z e w'∧∃ T,AA T w w'∧∀ j∈T,base≤j:=by
 obtain ⟨i0,hi0,hz0,hz1,hz2⟩:=info_parts Mu;obtain ⟨tD,mD,sz,tN,mN,co,cl,ln,cvs,kvs,hV⟩:=h;have kA:=AA.alloc [] w (.cells #[.string (AV n.g),.string (BB n.g),.int .i64 n.line,.string (AV z.g),.string (BB z.g),.int .i64 z.line] 321);have hA:=AK.new w #[.string (AV n.g),.string (BB n.g),.int .i64 n.line,.string (AV z.g),.string (BB z.g),.int .i64 z.line] 321;obtain ⟨aD,cD,hD⟩:=Al hV.doms.row;have hlen:=AD (fun (w':World) (k:AA [] w w')=>FC (w:=w') (B:=B) (o:=0) (ns:=m.doms.map Prod.fst) (a:=aD) (c:=cD) (by rw [(hV.cells.keeps k).cell,←hD];rfl));have htk:=AD (fun (w':World) (k:AA [] w w')=>HW (hV.cells.keeps k) rfl rfl ((hV.keeps k).doms) ((hV.keeps k).names) (BB n.g));rw [B7,B7] at htk;have ht':((CP m.doms (BB n.g)).isSome || (CP m.rels (BB n.g)).isSome)=false:=ht;rw [ht'] at htk;have hpl:Dp (m.doms.map Prod.fst) (BB n.g)=none:=by
  rw [B7];rw [Bool.or_eq_false_iff] at ht';exact Option.isNone_iff_eq_none.1 (by simpa using ht'.1)
 have hadd:=AD (fun (w':World) (k:AA [] w w')=>Kk (s:=BB n.g) (hV.cells.keeps k) (o:=0) rfl rfl (X:=[B]) (by simp) (fun j hj=>by have e:j=B:=(by simpa using hj);have:=(hV.cells.keeps k).lt;omega) (by have:=k.size;omega) ((hV.keeps k).doms) (by rw [AY];omega) hpl);have hBl:=hV.cells.lt;rw [AY] at hlen;have h4I:(((m.doms.length:Nat):Int) == 4)=false:=by rw [beq_eq_false_iff_ne];omega
 have hno:=AD (fun (w:World)=>DZ (w:=w) n 6);have hno2:=AD (fun (w:World)=>DZ (w:=w) n 7);have hval:=AD (fun (w:World)=>Jq (w:=w) z zs hzg hzw);have HV:=AD hV;have hnr:0≤Cp z.g∧Cp z.g<100:=by
  rw [hzg] at hzw ⊢;exact Jr hzw.1 (AQ _) hzw.2.2
 obtain ⟨hn0,hn1⟩:=hnr;clear hV ht ht' hzg hzw;go_in
 go_upto_region 1 with fail
 go_cut [] (fun wc=>AA [] w wc∧AK wc w.heap.size #[.string (AV n.g),.string (BB n.g),.int .i64 n.line,.string (AV z.g),.string (BB z.g),.int .i64 z.line])
 case first=>
  go_region_law (first
   | (refine A2 rfl 254 _ _ rfl _ func254 (by kernel_rfl) (by kernel_rfl) [.pointer (some ⟨B,0,none⟩)] rfl ?_
      refine (hlen.out _ (kA.trans (AA.drew _ _))).mono ?_
      rintro e w1 ⟨rfl,rfl⟩)
   | (refine A2 rfl 335 _ _ rfl _ func335 (by kernel_rfl) (by kernel_rfl) [Da n,.bool false,.int .i64 6] rfl ?_
      refine (hno.out _).mono ?_
      rintro e w1 ⟨rfl,rfl⟩))
  all_goals
   go_wp2_with fail
   go_meet
   exact ⟨(kA.trans (AA.drew _ _)).trans (AA.alloc [] _ _),(hA.keeps (AA.drew [] _)).keeps (AA.alloc [] _ _)⟩
 case rest=>
  obtain ⟨k1,hA1⟩:=hcut;have d0:=hA1.cell 0;have d1:=hA1.cell 1;have d2:=hA1.cell 2;go_upto_region 2 with fail
  go_cut [] (fun wc2=>AA [] w wc2∧AK wc2 w.heap.size #[.string (AV n.g),.string (BB n.g),.int .i64 n.line,.string (AV z.g),.string (BB z.g),.int .i64 z.line])
  case first=>
   go_region_law (first
    | (refine A2 rfl 336 _ _ rfl _ func336 (by kernel_rfl) (by kernel_rfl) [.pointer (some ⟨B,0,none⟩),.string (BB n.g)] rfl ?_
       refine (htk.out _ (k1.trans (AA.drew _ _))).mono ?_
       rintro e w1 ⟨rfl,rfl⟩)
    | (refine A2 rfl 335 _ _ rfl _ func335 (by kernel_rfl) (by kernel_rfl) [Da n,.bool false,.int .i64 7] rfl ?_
       refine (hno2.out _).mono ?_
       rintro e w1 ⟨rfl,rfl⟩))
   all_goals
    go_wp2_with fail
    go_meet
    exact ⟨(k1.trans (AA.drew _ _)).trans (AA.alloc [] _ _),(hA1.keeps (AA.drew [] _)).keeps (AA.alloc [] _ _)⟩
  case rest=>
   clear d0 d1 d2 hA1 k1;obtain ⟨k1,hA1⟩:=hcut;have d0:=hA1.cell 0;have d1:=hA1.cell 1;have d3:=hA1.cell 3;have d4:=hA1.cell 4;have d5:=hA1.cell 5;go_wp2_with fail
   refine (hval.out _).mono ?_;rintro e w2 ⟨rfl,rfl⟩;have k2:=k1.trans (AA.alloc [] wc (.cells #[.string (AV z.g),.string (BB z.g),.int .i64 z.line] 129));have hA2:=hA1.keeps (AA.alloc [] wc (.cells #[.string (AV z.g),.string (BB z.g),.int .i64 z.line] 129));have e3:=hA2.cell 3;have e4:=hA2.cell 4;have e5:=hA2.cell 5;have hsr:=k1.size;clear d0 d1 d3 d4 d5;by_cases hr1:Cp z.g<1
   ·have Hr:Hid (Cp z.g<1∨8<Cp z.g):=AD (.inl hr1);have q1:decide (Cp z.g<1)=true:=decide_eq_true hr1;have q2:decide (8<Cp z.g)=false:=decide_eq_false (by omega);clear hr1;have hyes:=AD (fun (w:World)=>DT (w:=w) z 9);go_wp2_with fail
    refine (hyes.out _).mono ?_;rintro e w3 ⟨rfl,rfl⟩;exact ⟨rfl,by unfold VL;rw [if_pos Hr.out];rfl,[],k2.trans (AA.alloc [] _ _),by simp⟩
   ·by_cases hr2:8<Cp z.g
    ·have Hr:Hid (Cp z.g<1∨8<Cp z.g):=AD (.inr hr2);have q1:decide (Cp z.g<1)=false:=decide_eq_false hr1;have q2:decide (8<Cp z.g)=true:=decide_eq_true hr2;clear hr1 hr2;have hyes:=AD (fun (w:World)=>DT (w:=w) z 9);go_wp2_with fail
     refine (hyes.out _).mono ?_;rintro e w3 ⟨rfl,rfl⟩;exact ⟨rfl,by unfold VL;rw [if_pos Hr.out];rfl,[],k2.trans (AA.alloc [] _ _),by simp⟩
    ·have Hr:Hid (¬ (Cp z.g<1∨8<Cp z.g)):=AD (fun h=>h.elim hr1 hr2);have q1:decide (Cp z.g<1)=false:=decide_eq_false hr1;have q2:decide (8<Cp z.g)=false:=decide_eq_false hr2;clear hr1 hr2;have hno9:=AD (fun (w:World)=>DZ (w:=w) z 9);go_wp2_with fail
     refine (hno9.out _).mono ?_;rintro e w3 ⟨rfl,rfl⟩;have k3:=k2.trans (AA.alloc [] _ (.cells #[.string (AV z.g),.string (BB z.g),.int .i64 z.line] 129));have hA3:=hA2.keeps (AA.alloc [] _ (.cells #[.string (AV z.g),.string (BB z.g),.int .i64 z.line] 129));generalize hWW:((wc.alloc (.cells #[.string (AV z.g),.string (BB z.g),.int .i64 z.line] 129)).alloc (.cells #[.string (AV z.g),.string (BB z.g),.int .i64 z.line] 129))=W3 at *;have c1:=hA3.cell 1;clear hWW hA2 hA1 k1 k2 e3 e4 e5;go_upto_region 5 with fail
     go_cut [] (fun wx=>∃ wy,AA [] w wy∧Po wy base [B] B 0 #[tD,mD,sz,tN,mN,co,cl,ln] tD mD (m.doms.map Prod.fst) (BB n.g) wx)
     case first=>
      go_region_law (first
       | (refine A2 rfl 72 _ _ rfl _ func72 (by kernel_rfl) (by kernel_rfl) [.pointer (some ⟨B,0,none⟩),.string (BB n.g)] rfl ?_
          refine (hadd.out _ (k3.trans (AA.drew _ _))).mono ?_
          rintro e w4 ⟨rfl,hAd⟩))
      all_goals
       go_wp2_with fail
       go_meet
       exact ⟨_,k3.trans (AA.drew _ _),hAd⟩
     case rest=>
      obtain ⟨wy,ky,hAd⟩:=hcut;have hVy:=HV.out.keeps ky;obtain ⟨tv',mv',hcells,hset,hown',hmap'⟩:=hAd.set;obtain ⟨T,kT,hT⟩:=hAd.keep;have hT':∀ j∈T,j∈[B]++Aa tD++mapL mD:=fun j hj=>by
       rcases hT j hj with h | h | h
       ·simp [h]
       ·have h2:tD.ownBlock=some j:=h;simp [Aa,h2]
       ·have h2:mD=.map (some j):=h;simp [mapL,h2]
      have hcells':AK wc B #[tv',mv',sz,tN,mN,co,cl,ln]:=hcells;have hfy:=hVy.foot;have hszT:∀ j∈Aa sz,j∉T:=fun j hj hjT=>by
       have h1:=hT' j hjT;have h2:(([B]++Aa tD++mapL mD)++Aa sz++HZ tN mN co cl ln).Nodup:=by rw [KG] at hfy;simpa using hfy
       exact ((Cn h2).1 j hj).1 h1
      have hsz:=AH hVy.sizes kT (fun j hj=>hszT j (by simp [Aa,hj]));obtain ⟨aS,cS,hS⟩:=Al hsz;subst hS;have d2:=hcells'.cell 2;have hBc:=hcells'.lt;have kA4:=AA.alloc [] wc (.cells #[.int .i64 (Cp z.g)] 3);have ownB:=AH hsz kA4;have hsy:=ky.size;have hsT:=kT.size;clear hadd hval hno hno2 hno9 htk hlen hAd hcells hT;go_wp2_with (at_builtin;refine wpList_append_own_at _ rfl _ _ 40 rfl base 3 i0 (.int .i64 0) 1 8 underlying40 hi0 hz0 hz1 hz2 rfl (by decide) _ m.doms.length (Fh (m.doms.map Prod.snd)) rfl ownB ⟨wc.heap.size,0,none⟩ 1 1 [.int .i64 (Cp z.g)] rfl (by simp) OA (by simp [Value.oneCell']) (by unfold maxLen;omega) (by omega) (by rw [AX];omega) ?_)
      intro v' W2 own4 grow4 nil4 at4;have k4:=grownBy_keeps' grow4 (Aa (.slice aS m.doms.length cS)) (fun r e=>.inl (by simp [Aa,e]));obtain ⟨gg,cap,rfl⟩:=EL own4
      have hB4:=(hcells'.keeps kA4).keeps k4 (fun hx=>by
       have h2:([B]++(Aa tD++mapL mD++Aa (.slice aS m.doms.length cS))++HZ tN mN co cl ln).Nodup:=by rw [KG] at hfy;exact hfy
       exact ((Cn h2).1 B (AT _ hx)).1 (by simp))
      have e2:=hB4.cell 2;have f2:=hB4.frozen 2;have Hown4:=AD own4;have Hk4:=AD k4;have HB4:=AD hB4;clear own4 grow4 nil4 k4 hB4;go_wp2_with fail
      go_end0
      have hfD:=hfy;rw [KG] at hfD;have hAp:=Cn hfD;have hin:∀ {A L R:List Nat},(A++L++R).Nodup→∀ j∈L,j∉A:=fun h j hj=>((Cn h).1 j hj).1;have hDM:∀ j∈Aa (.slice aS m.doms.length cS),j∉Aa tD∧j∉mapL mD:=fun j hj=>by
       have h2:(([B]++Aa tD++mapL mD)++Aa (.slice aS m.doms.length cS)++HZ tN mN co cl ln).Nodup:=(by simpa using hfD);have h3:=hin h2 j hj;exact ⟨fun q=>h3 (by simp [q]),fun q=>h3 (by simp [q])⟩
      have hszl:∀ j∈Aa (.slice aS m.doms.length cS),base≤j∧j<wy.heap.size:=fun j hj=>hVy.foot_lt j (by rw [KG];simp [hj]);have htl:∀ j∈Aa tv',j∈Aa tD∨wy.heap.size≤j:=fun j hj=>by
       rcases hown' j (by simpa [Aa] using hj) with h | h
       ·left;have h2:tD.ownBlock=some j:=h;simp [Aa,h2]
       ·exact .inr h
      have hml:∀ j∈mapL mv',j∈mapL mD∨wy.heap.size≤j:=fun j hj=>by
       have e:mv' = .map (some j):=by
        unfold mapL at hj;split at hj
        ·have e:j=_:=(by simpa using hj);rw [e]
        ·cases hj
       rcases hmap' j e with h | h
       ·left;have h2:mD=.map (some j):=h;simp [mapL,h2]
       ·exact .inr h
      have hts:∀ j∈Aa tv',j∉Aa (.slice aS m.doms.length cS):=fun j hj hs=>by
       rcases htl j hj with h | h
       ·exact (hDM j hs).1 h
       ·have:=(hszl j hs).2;omega
      have hms:∀ j∈mapL mv',j∉Aa (.slice aS m.doms.length cS):=fun j hj hs=>by
       rcases hml j hj with h | h
       ·exact (hDM j hs).2 h
       ·have:=(hszl j hs).2;omega
      have hgg:gg∈Aa (.slice aS m.doms.length cS)∨gg=wc.heap.size+1:=by
       rcases at4 with h | h
       ·left;simp only [Aa];rw [←h];simp [Value.ownBlock]
       ·right;simpa [Value.ownBlock] using h
      have htw:∀ j∈Aa tv',j<wc.heap.size:=fun j hj=>(DJ hset.row j hj).2;have hmw:∀ j∈mapL mv',j<wc.heap.size:=fun j hj=>(H6 hset j hj).2;have hBy:=hVy.cells.lt;have hggB:gg≠B:=by
       rcases hgg with h | h
       ·intro e;subst e;exact (hAp.1 gg (AT _ h)).1 (by simp)
       ·omega
      have ks:=AA.setCell W2 ⟨B,2,none⟩ (.slice (some ⟨gg,0,none⟩) (m.doms.length+1) cap)
      have kall:AA ([B]++(Aa tD++mapL mD++Aa (.slice aS m.doms.length cS))) wy (W2.setCell ⟨B,2,none⟩ (.slice (some ⟨gg,0,none⟩) (m.doms.length+1) cap)):=
       (((kT.mono (fun i hi=>by have:=hT' i hi;simp at this ⊢;rcases this with q | q | q <;> simp [q])).trans (kA4.mono (by simp))).trans (Hk4.out.mono (fun i hi=>by simp [hi]))).trans (ks.mono (by simp))
      have k5:AA (Aa (.slice aS m.doms.length cS)++[B]) wc (W2.setCell ⟨B,2,none⟩ (.slice (some ⟨gg,0,none⟩) (m.doms.length+1) cap)):=((kA4.mono (by simp)).trans (Hk4.out.mono (fun i hi=>by simp [hi]))).trans (ks.mono (by simp))
      have hsetF:=hset.kept k5 (fun j hj hx=>by
       rcases AC.1 hx with h | h
       ·exact hts j hj h
       ·exact hset.rowA j (by simpa [Aa] using hj) h) (fun j hj hx=>by
       rcases AC.1 hx with h | h
       ·exact hms j hj h
       ·rcases hset.map with ⟨q,_⟩ | ⟨r,q,_,_,q4,_⟩
        ·rw [q] at hj;simp [mapL] at hj
        ·rw [q] at hj;simp [mapL] at hj;subst hj;exact q4 h)
      have hzF:=AH Hown4.out ks (fun j hj hx=>by
       have e1:j=B:=(by simpa using hx);have e2:gg=j:=(by simpa [Value.ownBlock] using hj)
       exact hggB (by rw [e2,e1]))
      refine ⟨?_,[B]++(Aa tD++mapL mD++Aa (.slice aS m.doms.length cS)),(ky.mono (by simp)).trans kall,fun j hj=>(hVy.foot_lt j (by rw [KG];exact AN _ hj)).1⟩;unfold VL;rw [if_neg Hr.out];refine ⟨rfl,hVy.addDom kall (fun j hj=>.inl hj) (HB4.out.setCell 2 _) hsetF hzF (fun j hj=>?_) ?_⟩
      ·rcases AC.1 hj with h | h
       ·rcases AC.1 h with h | h
        ·rcases htl j h with q | q
         ·left;simp [q]
         ·exact .inr q
        ·rcases hml j h with q | q
         ·left;simp [q]
         ·exact .inr q
       ·have e:j=gg:=(by simpa [Aa,Value.ownBlock] using h);rcases hgg with q | q
        ·left;rw [e];simp [q]
        ·right;omega
      ·rw [BJ,BJ];refine ⟨⟨GE _,LV _,fun a ha b hb e=>?_⟩,GE _,fun a ha b hb e=>?_⟩
       ·subst e;rcases hset.map with ⟨q,_⟩ | ⟨r,q,_,_,_,q5⟩
        ·rw [q] at hb;simp [mapL] at hb
        ·rw [q] at hb;simp [mapL] at hb;subst hb;exact q5 (by simpa [Aa] using ha)
       ·subst e;have e2:a=gg:=(by simpa [Aa,Value.ownBlock] using hb);subst e2;rcases hgg with q | q
        ·rcases AC.1 ha with h | h
         ·exact hts a h q
         ·exact hms a h q
        ·rcases AC.1 ha with h | h
         ·have:=htw a h;omega
         ·have:=hmw a h;omega
end
end Go.Proofs.YtgjomknpjigkhaaGreatDoor
