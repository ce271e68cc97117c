import Derived.Test.YtgjomknpjigkhaaGreatDoorZ07
import Derived.Deep.RegionLaw
import Derived.Deep.AppendLies
namespace Go.Proofs.YtgjomknpjigkhaaGreatDoor
open Go.Proofs.Tryz
set_option maxRecDepth 100000
set_option maxHeartbeats 4000000
section
open Go.RowKit
theorem iS:(prog.info? 353).map (fun i=>(i.zero,i.size,i.bytes))=some (some (.agg #[.string ⟨#[]⟩,.string ⟨#[]⟩,.int .i64 0,.slice none 0 0,.bool false]),5,72):=by kernel_rfl
theorem XU:(prog.info? 330).map (·.size)=some 5:=by kernel_rfl
def MN (ts:List Tn):Except Nat ((Dx×List Dn)×List Tn):=
 match Fj ts with
 | .error l=>.error l
 | .ok (a,us)=>match GB us with
  | .error l=>.error l
  | .ok (b,vs)=>.ok ((a,b),vs)
def KX (base b g:Nat) (r:Except Nat ((Dx×List Dn)×List Tn)) (e:Ending) (w':World):Prop:=match r with
 | .ok ((a,ls),us)=>∃ hv lv cs,e=.returned (.agg #[.string (AV a.name.g),.string (BB a.name.g),.int .i64 a.name.line,hv,lv])∧w'.ownsRow base 129 3 hv a.terms.length (De a.terms)∧(∀ j,hv.ownBlock=some j→lv.ownBlock≠some j)∧w'.ownsRow base 353 5 lv ls.length cs∧Dk w' base lv.ownBlock.toList ls cs∧HL w' b g us
 | .error l=>e=Cx 5 l
def Lh (a:Dx) (d:List Dn):Except Nat (List Dn×List Tn)→Except Nat ((Dx×List Dn)×List Tn)
 | .ok (r,us)=>.ok ((a,d++r),us)
 | .error l=>.error l
theorem Gm {ops : Array Oper} {o : Oper} {a : Act} {w : World} {K : Act → World → Prop} {Q : Exit → Act → World → Prop} {E : Prop} (hg : o.guard = none) (f : Nat) (x : Operand) (ty : TypeId) (hop : o.op = .call { callee := .value (.func f), args := #[x], argTypes := #[ty] }) (fn : Func) (hf : prog.funcs[f]? = some fn) (hname : (fn.name == "runtime.NumGoroutine") = false) (hbody : fn.body.isNone = false) (v : Value) (hx : a.eval x = v)
  (h:Calls prog f #[v] w fun
   | .returned v,w''=>K (a.put o.dst v) w''
   | .panicked chain,w''=>Q (.panic chain) a w''
   | .outgrown,_=>LetsOut Q):if Region.wanted o (yielded ops a.tmps)=true then Oper.wp prog o a w K Q else E:=by
 have hw:Region.wanted o (yielded ops a.tmps)=true:=by simp [Region.wanted,hg]
 rw [if_pos hw];unfold Oper.wp;have he:(execOp a.eval o).run prog w=.ok (.enter f #[v]) w:=by
  have h1:a.eval (.func f)=.func (.func f) #[] #[]:=rfl;simp only [execOp,hop,resolve,List.map_toArray,Au,Dc,hx,h1,Deferred.ofValue,invoke,callFunc]
  have hn' : ¬ fn.name = "runtime.NumGoroutine" := by simpa using hname
  have hb':¬ fn.body=none:=by intro e;rw [e] at hbody;cases hbody
  simp [hf];rw [if_neg hn',if_neg hb']
 rw [he];exact h
theorem Xl {W:World} {a0 a1 a2 a3 a4:Value}:∀ (j:Nat) (x:Value),[a0,a1,a2,a3,a4][j]?=some x→(W.alloc (.cells #[a0,a1,a2,a3,a4] 353)).cell? ((⟨W.heap.size,0,none⟩:Addr).add j)=some x:=by
 intro j x hx;rw [Addr.add_lit,Ag,(AK.new W #[a0,a1,a2,a3,a4] 353).cell];match j with
 | 0=>simpa using hx
 | 1=>simpa using hx
 | 2=>simpa using hx
 | 3=>simpa using hx
 | 4=>simpa using hx
 | j+5=>simp at hx
theorem CL.lit {w w4 w5:World} {rb cb b g:Nat} {nm:Tn} {terms:List Tn} {hv:Value} {d:List Dn} {lv:Value} {cs:List Value} {us us':List Tn} (h:CL w rb cb b g nm terms hv d lv cs us) (k5:AA [b] w w4) (hp4:HL w4 b g us') {l:Dn} {tv:Value} (own4:w4.ownsRow w.heap.size 129 3 tv l.atom.terms.length (De l.atom.terms)) {o:Obj} (hgrow:(w4.alloc o).grownBy w5 lv.ownBlock) {gg cap:Nat} (hown:w5.ownsRow rb 353 5 (.slice (some ⟨gg,0,none⟩) (d.length+1) cap) (d.length+1) (cs++El l tv)) (hat:lv.ownBlock=some gg∨gg=w4.heap.size+1) :
  CL (w5.setCell ⟨cb,4,none⟩ (.slice (some ⟨gg,0,none⟩) (d.length+1) cap)) rb cb b g nm terms hv (d++[l]) (.slice (some ⟨gg,0,none⟩) (d.length+1) cap) (cs++El l tv) us'∧AA ([b,cb]++lv.ownBlock.toList) w (w5.setCell ⟨cb,4,none⟩ (.slice (some ⟨gg,0,none⟩) (d.length+1) cap)):=by
 have hC4:=(h.go k5 hp4).go (AA.alloc [b] w4 o) (Ds w4 hp4 o);have k6:=grownBy_keeps' hgrow lv.ownBlock.toList (fun r e=>.inl (by simp [e]));have hcb:=h.cl.lt;have hrc:=h.rc;have hs:=k5.size;have hlv:∀ j,lv.ownBlock=some j→j<w.heap.size:=fun j hj=>(Bd h.lits j hj).2;refine ⟨hC4.push (BZ (AH own4 (AA.alloc [] w4 o)) (by have:=h.low;omega)) (fun j hj=>?_) k6 ?_ hown rfl,?_⟩
 ·have:=Bd own4 j hj;rw [AX];refine ⟨fun hT=>?_,by omega⟩;rcases AC.1 hT with hT | hT
  ·have:j=rb∨j=cb:=(by simpa using hT);omega
  ·have:=hlv j (by simpa using hT);omega
 ·rcases hat with e | e
  ·exact .inl e
  ·right;rw [AX];omega
 ·have a1:AA ([b,cb]++lv.ownBlock.toList) w (w4.alloc o):=(k5.trans (AA.alloc [b] w4 o)).mono (by simp);have a2:=a1.trans (k6.mono (fun i hi=>AT _ hi));exact a2.trans ((AA.setCell w5 ⟨cb,4,none⟩ _).mono (by simp))
theorem CL.done {w W:World} {rb cb b g:Nat} {a:Dx} {hv:Value} {d:List Dn} {lv:Value} {cs:List Value} {us:List Tn} (h:CL w rb cb b g a.name a.terms hv d lv cs us) (k:AA [rb] w W):KX rb b g (.ok ((a,d),us)) (.returned (.agg #[.string (AV a.name.g),.string (BB a.name.g),.int .i64 a.name.line,hv,lv])) W:=by
 have:=h.low;have:=h.rc;refine ⟨hv,lv,cs,rfl,AH h.head k (fun j hj hT=>?_),fun j hj=>(h.headA j hj).2,AH h.lits k (fun j hj hT=>?_),?_,h.at_.keeps k (by simp;omega) (by simp;omega)⟩
 ·have e:j=rb:=(by simpa using hT);exact (h.headA j hj).1 (by simp [e])
 ·have e:j=rb:=(by simpa using hT);exact h.litsA j hj (by simp [e])
 ·exact (h.are.keeps k (fun j hj=>.inl (by have e:j=rb:=(by simpa using hj);simp [e]))).apart (fun j hj=>.inl (AT _ hj))
theorem MM {w:World} {b g:Nat} {us:List Tn} (h:HL w b g us) (he:CV us) (hl:us.length≤1000000):Calls prog 253 #[.pointer (some ⟨b,0,none⟩)] w fun e w'=>KX w.heap.size b g (MN us) e w'∧AA [b] w w':=by
 obtain ⟨i0,hi0,hz0,hz1,hz2⟩:=info_parts iS;have h2:=AD (G5 (Ds w h (.cells #[.string ⟨#[]⟩,.string ⟨#[]⟩,.int .i64 0,.slice none 0 0,.slice none 0 0] 330)) he hl);have kA:=AA.alloc [b] w (.cells #[.string ⟨#[]⟩,.string ⟨#[]⟩,.int .i64 0,.slice none 0 0,.slice none 0 0] 330);have hA:=AK.new w #[.string ⟨#[]⟩,.string ⟨#[]⟩,.int .i64 0,.slice none 0 0,.slice none 0 0] 330;obtain ⟨hblt,hglt⟩:=h.lt;clear h;unfold MN;cases hr:Fj us with
 | error l=>
  rw [hr] at h2;go_in
  go_wp2_with fail
  refine h2.out.mono ?_;rintro e w1 ⟨rfl,k1⟩;exact ⟨rfl,rfl,kA.trans k1⟩
 | ok q=>
  obtain ⟨a,vs⟩:=q;rw [hr] at h2;have g1:=G6 he hr
  have hR0:(match GB vs with
   | .error l=>Except.error l
   | .ok (b,vs)=>.ok ((a,b),vs))=Lh a [] (GB vs):=by
    cases GB vs with
    | error l=>rfl
    | ok q=>obtain ⟨x,y⟩:=q;rfl
  simp only;rw [hR0];clear hR0;generalize hR:Lh a [] (GB vs)=R;have HR:=AD hR;clear hR;go_in
  go_wp2_with fail
  refine h2.out.mono ?_;rintro e w1 ⟨⟨hv,rfl,own,hp1⟩,k1⟩;have hsz1:w.heap.size+1≤w1.heap.size:=by have:=k1.size;rw [AX] at this;exact this
  have hres1:=hA.keeps k1 (by simp;omega);have kC:=AA.alloc [b] w1 (.cells #[.string (AV a.name.g),.string (BB a.name.g),.int .i64 a.name.line,hv,.slice none 0 0] 330)
  have hCL:CL (w1.alloc (.cells #[.string (AV a.name.g),.string (BB a.name.g),.int .i64 a.name.line,hv,.slice none 0 0] 330)) w.heap.size w1.heap.size b g a.name a.terms hv [] (.slice none 0 0) [] vs:=
   ⟨hres1.keeps kC (by simp;omega),AK.new w1 _ 330,by omega,⟨hblt,hglt⟩,BZ (AH own (AA.alloc [] w1 _)) (by rw [AX];omega),fun j hj=>⟨by have:=Bd own j hj;rw [AX] at this;simp;omega,by simp [Value.ownBlock]⟩,World.ownsRow_nil ..,fun j hj=>by simp [Value.ownBlock] at hj,rfl,Ds w1 hp1 _⟩
  have k3:AA [b] w (w1.alloc (.cells #[.string (AV a.name.g),.string (BB a.name.g),.int .i64 a.name.line,hv,.slice none 0 0] 330)):=(kA.trans k1).trans kC;have hTk:=AD (DI cR rfl hCL.at_ g1.2 (by have:=g1.1;omega));obtain ⟨av,cv,hvv⟩:=Al own;subst hvv;have HCL:=AD hCL;clear hCL own hres1;cases hs:E1 MB vs with
  | false=>
   have hb:GB vs=(match Ca LZ vs with
    | .error l=>.error l
    | .ok (_,us)=>.ok ([],us)):=by unfold GB;rw [hs];rfl
   rw [hs] at hTk;cases hr3:Ca LZ vs with
   | error l=>
    go_wp2_with fail
    refine hTk.out.mono ?_;rintro e w2 ⟨rfl,hp2,k2⟩;have h5:=AD (Bk (us:=vs) SD rfl hp2 g1.2 (by have:=g1.1;omega));rw [hr3] at h5;go_wp2_with fail
    refine h5.out.mono ?_;rintro e w4 ⟨rfl,k5⟩;refine ⟨rfl,?_,(k3.trans k2).trans k5⟩;rw [←HR.out,hb,hr3];rfl
   | ok q3=>
    obtain ⟨t3,us3⟩:=q3;go_wp2_with fail
    refine hTk.out.mono ?_;rintro e w2 ⟨rfl,hp2,k2⟩;have h5:=AD (Bk (us:=vs) SD rfl hp2 g1.2 (by have:=g1.1;omega));rw [hr3] at h5;go_wp2_with fail
    refine h5.out.mono ?_;rintro e w4 ⟨⟨rfl,hp5⟩,k5⟩;have hC4:=HCL.out.go (k2.trans k5) hp5;have d0:=hC4.cl.cell 0;have d1:=hC4.cl.cell 1;have d2:=hC4.cl.cell 2;have d3:=hC4.cl.cell 3;have d4:=hC4.cl.cell 4;obtain ⟨c0,f0,c1,f1,c2,f2,c3,f3,c4,f4,hat,hk⟩:=gW hC4.res (.string (AV a.name.g)) (.string (BB a.name.g)) (.int .i64 a.name.line) (.slice av a.terms.length cv) (.slice none 0 0);have Hat:=AD hat;have Hdone:=AD (hC4.done hk);have Hk:=AD hk;clear hat hk hC4;go_wp2_with fail
    refine bodyPost_ret (v:=.agg #[.string (AV a.name.g),.string (BB a.name.g),.int .i64 a.name.line,.slice av a.terms.length cv,.slice none 0 0]) (EO (p:=2) (ty:=330) (by kernel_rfl) _ Hat.out underlying330 XU rfl) rfl ⟨?_,((k3.trans k2).trans k5).trans_new Hk.out (by simp)⟩;rw [←HR.out,hb,hr3];exact Hdone.out
  | true=>
   have g2:=Cm KM g1.2 hs;have hlt:=AD (fun (w:World) (us:List Tn) (h:HL w b g us) (he:CV us) (hl:us.length≤1000000)=>Y9 h he hl);rw [hs] at hTk;cases hr3:Nv vs.tail with
   | error l=>
    have hb:GB vs=.error l:=by unfold GB;rw [hs];simp only [if_true];rw [hr3]
    have Hbad:Hid (∀ W,KX w.heap.size b g R (Cx 5 l) W):=AD (fun W=>by rw [←HR.out,hb];exact rfl);go_wp2_with fail
    refine hTk.out.mono ?_;rintro e w2 ⟨rfl,hp2,k2⟩;have hC2:=HCL.out.go (us':=vs.tail) k2 hp2;have hC2d:=hC2.drew;have h5:=AD (hlt.out w2.drew vs.tail hC2d.at_ g2.2 (by have:=g1.1;have:=g2.1;omega));rw [hr3] at h5;have d4:=hC2.cl.cell 4;have d4d:=hC2d.cl.cell 4;go_wp2_with fail
    refine wp_region_any (by kernel_rfl) ?_;change wpAny _ _ _ _ _ _ _ (World.drew _);refine wpAny_take (i:=0) (v:=?_) rfl (by kernel_rfl) (by kernel_rfl) (by kernel_rfl) (fun _ _ _ h=>h) (BX ⟨by rfl,?_⟩) ?_;rotate_left
    ·(intro w0;go_simp) <;> with_reducible rfl
    refine wpAny_take (i:=2) (v:=?_) rfl (by kernel_rfl) (by kernel_rfl) (by kernel_rfl) (fun _ _ _ h=>h) (BX ⟨by rfl,?_⟩) ?_;rotate_left
    ·(intro w0;go_simp) <;> with_reducible rfl
    refine wpAny_ready (rs:=[1,3]) (by kernel_rfl) (by simp) ?_;refine AllReady.cons rfl (fun K hK=>?_) ?_
    ·go_simp
     refine hK _ _ ?_;clear hK K;refine wpAny_ready (rs:=[3]) (by kernel_rfl) (by simp) ?_;refine AllReady.cons rfl (fun K hK=>?_) AllReady.nil;refine Gm rfl 290 _ _ rfl _ func290 (by kernel_rfl) (by kernel_rfl) _ rfl ?_;refine h5.out.mono ?_;rintro e w4 ⟨rfl,k5⟩;exact ⟨rfl,Hbad.out _,((k3.trans k2).trans (AA.drew _ _)).trans k5⟩
    ·refine AllReady.cons rfl (fun K hK=>?_) AllReady.nil;refine Gm rfl 290 _ _ rfl _ func290 (by kernel_rfl) (by kernel_rfl) _ rfl ?_;refine h5.out.mono ?_;rintro e w4 ⟨rfl,k5⟩;exact ⟨rfl,Hbad.out _,((k3.trans k2).trans (AA.drew _ _)).trans k5⟩
   | ok q3=>
    obtain ⟨l3,us3⟩:=q3;have g3:=Gp g2.2 hr3;have hb:Lh a [l3] (Gh us3.length us3)=R:=by
     rw [←HR.out];unfold GB;rw [hs];simp only [if_true];rw [hr3];simp only;cases Gh us3.length us3 with
     | error l=>rfl
     | ok q=>obtain ⟨x,y⟩:=q;rfl
    have HR2:=AD hb;clear hb HR;go_wp2_with fail
    refine hTk.out.mono ?_;rintro e w2 ⟨rfl,hp2,k2⟩;have hC2:=HCL.out.go (us':=vs.tail) k2 hp2;have hC2d:=hC2.drew;have h5:=AD (hlt.out w2.drew vs.tail hC2d.at_ g2.2 (by have:=g1.1;have:=g2.1;omega));rw [hr3] at h5;have d4:=hC2.cl.cell 4;have d4d:=hC2d.cl.cell 4;have HC2d:=AD hC2d;clear hC2 hC2d;go_wp2_with fail
    go_region_law (first
     | (refine Gm rfl 290 _ _ rfl _ func290 (by kernel_rfl) (by kernel_rfl) _ rfl ?_
        refine h5.out.mono ?_;rintro e w4 ⟨⟨tv,rfl,own4,hp4⟩,k5⟩;obtain ⟨tva,tvc,rfl⟩:=Al own4;have hs4:w1.heap.size+1≤w4.heap.size:=by have h1:=k2.size;have h2:=k5.size;rw [AX] at h1;exact At h1 h2
        have hClA:=(HC2d.out.go k5 hp4).cl.keeps (AA.alloc [] w4 (.cells #[.string (AV l3.atom.name.g),.string (BB l3.atom.name.g),.int .i64 l3.atom.name.line,.slice tva l3.atom.terms.length tvc,.bool l3.no] 353));have d4e:=(HC2d.out.go k5 hp4).cl.cell 4
        have d4f:=hClA.cell 4)
     | (refine step_append_lies _ (by rfl) _ _ _ (by rfl) w.heap.size 353 i0 _ 5 72 underlying328 hi0 hz0 hz1 hz2 rfl (by omega) (.slice none 0 0) 0 [] (by rfl) (World.ownsRow_nil ..) ⟨w4.heap.size,0,none⟩ 1 1 [.string (AV l3.atom.name.g),.string (BB l3.atom.name.g),.int .i64 l3.atom.name.line,.slice tva l3.atom.terms.length tvc,.bool l3.no] (by rfl) (by rfl) (Xl (W:=w4)) (by simp [Value.oneCell']) (by omega) (by unfold maxLen;omega) (by omega) (by simp;omega) (w4.heap.size+1) (by simp) ?_
        intro gg cap w5 hown5 hgrow hat hlt5;have k6:=grownBy_keeps' hgrow [] (fun r e=>by simp [Value.ownBlock] at e);have hCl5:=hClA.keeps k6;have d4g:=hCl5.cell 4;have f4g:=hCl5.frozen 4;have hNew:=AD (HC2d.out.lit k5 hp4 own4 hgrow hown5 hat)
        clear hClA hCl5 k6))
    all_goals
     obtain ⟨hC6,k7⟩:=hNew.out;have k8:AA [b] w (w5.setCell ⟨w1.heap.size,4,none⟩ (.slice (some ⟨gg,0,none⟩) ([]:List Dn).length.succ cap)):=((k3.trans k2).trans (AA.drew _ _)).trans_new k7 (fun i hi=>by simp [Value.ownBlock] at hi;rcases hi with h | h <;> simp [h];omega);have HC6:=AD hC6;clear hC6 k7 d4d d4g f4g;go_wp2_with fail
     go_loopw [16] (fun _ wr=>∃ (k:Nat) (d:List Dn) (lv:Value) (cs:List Value) (xs:List Tn),CL wr w.heap.size w1.heap.size b g a.name a.terms (.slice av a.terms.length cv) d lv cs xs∧CV xs∧xs.length≤k∧d.length+xs.length≤us.length∧AA [b] w wr∧Lh a d (Gh k xs)=R) (fun _ wr=>aK (wr.cell? ⟨b,0,none⟩))
     case atStart=>exact ⟨us3.length,[l3],_,_,us3,HC6.out,g3.2,AQ _,by have:=g1.1;have:=g2.1;have:=g3.1;simp;omega,k8,HR2.out⟩
     case round=>
      clear HC6 k8 hTk h5 hNew;obtain ⟨k,d,lv,cs,xs,hCk,hex,hkx,hdx,kr,hres⟩:=hrel;have hlen:=hCk.at_.len;obtain ⟨k,rfl⟩:∃ k',k=k' + 1:=by obtain ⟨t,q,rfl⟩:=hex.cons;simp at hkx;exact ⟨k - 1,by omega⟩
      have hCm:=AD (DI O1 rfl hCk.at_ hex (by omega));have HCk:=AD hCk;have Hlen:=AD hlen;clear hCk hlen;cases hsc:E1 G3 xs with
      | false=>
       rw [hsc] at hCm;rw [Gh,hsc,if_neg (by decide)] at hres;cases hrd:Ca LZ xs with
       | error l=>
        rw [hrd] at hres;have Hres:=AD hres;clear hres;go_wp2_with fail
        refine hCm.out.mono ?_;rintro e w6 ⟨rfl,hp6,k6⟩;have h7:=AD (Bk (us:=xs) SD rfl hp6 hex (by omega));rw [hrd] at h7;go_wp2_with fail
        refine h7.out.mono ?_;rintro e w7 ⟨rfl,k7⟩;refine ⟨rfl,?_,(kr.trans k6).trans k7⟩;rw [←Hres.out];rfl
       | ok q4=>
        obtain ⟨t4,us4⟩:=q4;rw [hrd] at hres;have Hres:=AD hres;clear hres;go_wp2_with fail
        refine hCm.out.mono ?_;rintro e w6 ⟨rfl,hp6,k6⟩;have h7:=AD (Bk (us:=xs) SD rfl hp6 hex (by omega));rw [hrd] at h7;go_wp2_with fail
        refine h7.out.mono ?_;rintro e w7 ⟨⟨rfl,hp7⟩,k7⟩;have hC7:=HCk.out.go (k6.trans k7) hp7;have d0:=hC7.cl.cell 0;have d1:=hC7.cl.cell 1;have d2:=hC7.cl.cell 2;have d3:=hC7.cl.cell 3;have d4:=hC7.cl.cell 4;obtain ⟨lva,lvc,hlv⟩:=Al hC7.lits;subst hlv;obtain ⟨c0,f0,c1,f1,c2,f2,c3,f3,c4,f4,hat7,hk7⟩:=gW hC7.res (.string (AV a.name.g)) (.string (BB a.name.g)) (.int .i64 a.name.line) (.slice av a.terms.length cv) (.slice lva d.length lvc);have Hat:=AD hat7;have Hdone:=AD (hC7.done hk7);have Hk:=AD hk7;clear hat7 hk7 hC7;go_wp2_with fail
        refine bodyPost_ret (v:=.agg #[.string (AV a.name.g),.string (BB a.name.g),.int .i64 a.name.line,.slice av a.terms.length cv,.slice lva d.length lvc]) (EO (p:=2) (ty:=330) (by kernel_rfl) _ Hat.out underlying330 XU rfl) rfl ⟨?_,((kr.trans k6).trans k7).trans_new Hk.out (by simp)⟩;rw [←Hres.out];show KX w.heap.size b g (.ok ((a,d++[]),us4)) _ _;rw [BR];exact Hdone.out
      | true=>
       have g5:=Cm ES hex hsc;rw [hsc] at hCm;rw [Gh,hsc,if_pos rfl] at hres;obtain ⟨lva,lvc,hlv⟩:=Al HCk.out.lits;subst hlv;cases hr5:Nv xs.tail with
       | error l=>
        rw [hr5] at hres;have Hbad:Hid (∀ W,KX w.heap.size b g R (Cx 5 l) W):=AD (fun W=>by rw [←hres];exact rfl);clear hres;go_wp2_with fail
        refine hCm.out.mono ?_;rintro e w6 ⟨rfl,hp6,k6⟩;have hC6:=HCk.out.go (us':=xs.tail) k6 hp6;have hC6d:=hC6.drew;have h7:=AD (hlt.out w6.drew xs.tail hC6d.at_ g5.2 (by have:=g5.1;omega));rw [hr5] at h7;have d4:=hC6.cl.cell 4;have d4d:=hC6d.cl.cell 4;go_wp2_with fail
        refine wp_region_any (by kernel_rfl) ?_;change wpAny _ _ _ _ _ _ _ (World.drew _);refine wpAny_take (i:=0) (v:=?_) rfl (by kernel_rfl) (by kernel_rfl) (by kernel_rfl) (fun _ _ _ h=>h) (BX ⟨by rfl,?_⟩) ?_;rotate_left
        ·(intro w0;go_simp) <;> with_reducible rfl
        refine wpAny_take (i:=2) (v:=?_) rfl (by kernel_rfl) (by kernel_rfl) (by kernel_rfl) (fun _ _ _ h=>h) (BX ⟨by rfl,?_⟩) ?_;rotate_left
        ·(intro w0;go_simp) <;> with_reducible rfl
        refine wpAny_ready (rs:=[1,3]) (by kernel_rfl) (by simp) ?_;refine AllReady.cons rfl (fun K hK=>?_) ?_
        ·go_simp
         refine hK _ _ ?_;clear hK K;refine wpAny_ready (rs:=[3]) (by kernel_rfl) (by simp) ?_;refine AllReady.cons rfl (fun K hK=>?_) AllReady.nil;refine Gm rfl 290 _ _ rfl _ func290 (by kernel_rfl) (by kernel_rfl) _ rfl ?_;refine h7.out.mono ?_;rintro e w7 ⟨rfl,k7⟩;exact ⟨rfl,Hbad.out _,((kr.trans k6).trans (AA.drew _ _)).trans k7⟩
        ·refine AllReady.cons rfl (fun K hK=>?_) AllReady.nil;refine Gm rfl 290 _ _ rfl _ func290 (by kernel_rfl) (by kernel_rfl) _ rfl ?_;refine h7.out.mono ?_;rintro e w7 ⟨rfl,k7⟩;exact ⟨rfl,Hbad.out _,((kr.trans k6).trans (AA.drew _ _)).trans k7⟩
       | ok q5=>
        obtain ⟨l5,us5⟩:=q5;rw [hr5] at hres;have g6:=Gp g5.2 hr5;have hah:Lh a (d++[l5]) (Gh k us5)=R:=by
         rw [←hres]
         show _=Lh a d (match Gh k us5 with
          | .error l=>Except.error l
          | .ok (r,vs)=>.ok (l5 :: r,vs))
         cases Gh k us5 with
         | error l=>rfl
         | ok q=>obtain ⟨r,xs⟩:=q;simp [Lh]
        have Hah:=AD hah;clear hres hah;go_wp2_with fail
        refine hCm.out.mono ?_;rintro e w6 ⟨rfl,hp6,k6⟩;have hC6:=HCk.out.go (us':=xs.tail) k6 hp6;have hC6d:=hC6.drew;have h7:=AD (hlt.out w6.drew xs.tail hC6d.at_ g5.2 (by have:=g5.1;omega));rw [hr5] at h7;have d4:=hC6.cl.cell 4;have d4d:=hC6d.cl.cell 4;have HC6d:=AD hC6d;have hrb6:=hC6d.low;have hrl6:=hC6d.res.lt;clear hC6 hC6d;go_wp2_with fail
        go_region_law (first
         | (refine Gm rfl 290 _ _ rfl _ func290 (by kernel_rfl) (by kernel_rfl) _ rfl ?_
            refine h7.out.mono ?_;rintro e w7 ⟨⟨tv5,rfl,own7,hp7⟩,k7⟩;obtain ⟨tva5,tvc5,rfl⟩:=Al own7;have hs7:=k7.size;have hCl7:=(HC6d.out.go k7 hp7);have hClA:=hCl7.cl.keeps (AA.alloc [] w7 (.cells #[.string (AV l5.atom.name.g),.string (BB l5.atom.name.g),.int .i64 l5.atom.name.line,.slice tva5 l5.atom.terms.length tvc5,.bool l5.no] 353));have hOwA:=AH hCl7.lits (AA.alloc [] w7 (.cells #[.string (AV l5.atom.name.g),.string (BB l5.atom.name.g),.int .i64 l5.atom.name.line,.slice tva5 l5.atom.terms.length tvc5,.bool l5.no] 353));have d4e:=hCl7.cl.cell 4
            have d4f:=hClA.cell 4)
         | (refine step_append_lies _ (by rfl) _ _ _ (by rfl) w.heap.size 353 i0 _ 5 72 underlying328 hi0 hz0 hz1 hz2 rfl (by omega) (.slice lva d.length lvc) d.length cs (by rfl) hOwA ⟨w7.heap.size,0,none⟩ 1 1 [.string (AV l5.atom.name.g),.string (BB l5.atom.name.g),.int .i64 l5.atom.name.line,.slice tva5 l5.atom.terms.length tvc5,.bool l5.no] (by rfl) (by rfl) (Xl (W:=w7)) (by simp [Value.oneCell']) (by omega) (by unfold maxLen;omega) (by omega) (by rw [AX];omega) (w7.heap.size+1) (by simp) ?_
            intro gg7 cap7 w8 hown8 hgrow8 hat8 hlt8;have k8':=grownBy_keeps' hgrow8 (Value.slice lva d.length lvc).ownBlock.toList (fun r e=>.inl (by simp [e]));have hCl8:=hClA.keeps k8' (fun hT=>HC6d.out.litsA w1.heap.size (by simpa using hT) (by simp));have d4g:=hCl8.cell 4;have f4g:=hCl8.frozen 4;have hNew8:=AD (HC6d.out.lit k7 hp7 own7 hgrow8 hown8 hat8)
            clear hClA hCl8 k8' hCl7 hOwA))
        all_goals
         obtain ⟨hC9,k9⟩:=hNew8.out
         have k10:AA [b] w (w8.setCell ⟨w1.heap.size,4,none⟩ (.slice (some ⟨gg7,0,none⟩) (d.length+1) cap7)):=((kr.trans k6).trans (AA.drew _ _)).trans_new k9 (fun i hi=>by
          rcases AC.1 hi with hi | hi
          ·simp at hi;rcases hi with h | h <;> simp [h];omega
          ·exact .inr (As HC6d.out.lits i (by simpa using hi)).1)
         have hlen9:=AD hC9.at_.len;have HC9:=AD hC9;clear hC9 k9 d4d d4g f4g;go_wp2_with fail
         go_roundw
         ·exact ⟨k,d++[l5],_,_,us5,HC9.out,g6.2,by have:=g5.1;have:=g6.1;omega,by have:=g5.1;have:=g6.1;rw [AJ,Ah];omega,k10,Hah.out⟩
         ·rw [hlen9.out,Hlen.out];have:=g5.1;have:=g6.1;omega
end
end Go.Proofs.YtgjomknpjigkhaaGreatDoor
