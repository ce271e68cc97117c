import Derived.Test.YtgjomknpjigkhaaGreatDoorS12
namespace Go.Proofs.YtgjomknpjigkhaaGreatDoor
set_option maxRecDepth 100000
set_option maxHeartbeats 4000000
section
open Go.RowKit
theorem RowIs.keepsE {w w':World} {b:Nat} {xs:List Int} {T:List Nat} (h:RowIs w b xs) (k:Keeps T w w') (hb:b∉T):RowIs w' b xs:=h.of_heap (k.block b h.lt hb)
theorem RowIs.setE {w:World} {b:Nat} {xs:List Int} (h:RowIs w b xs) (i:Nat) (x:Int):RowIs (w.setCell ⟨b,i,none⟩ (.int .i64 x)) b (xs.set i x):=by
 obtain ⟨cs,h1,h2⟩:=h
 refine ⟨_,h1.setCell i _,fun j y hy=>?_⟩
 rw [List.getElem?_set] at hy
 by_cases e:i=j
 ·subst e
  by_cases hi:i<xs.length
  ·simp only [if_true,hi,Option.some.injEq] at hy
   subst hy
   have:=h2 i _ (List.getElem?_eq_getElem hi)
   have hs:i<cs.size:=(Array.getElem?_eq_some_iff.1 this).1
   simp [hs]
  ·simp [hi] at hy
 ·rw [if_neg e] at hy
  have:=h2 j y hy
  rw [Array.getElem?_setIfInBounds,if_neg e]
  exact this
theorem RowIs.frozenE {w:World} {b:Nat} {xs:List Int} (h:RowIs w b xs) (i:Nat):w.frozen? ⟨b,i,none⟩=false:=by
 obtain ⟨cs,h1,_⟩:=h
 exact h1.frozen i
def HeadB (ts:List TermM) (R:List Nat→Prop) (σ:Int→Bool):Prop:=(∃ τ:Int→Bool,(∀ u:Nat,u<12→0≤fcol ts (u / 3)→τ u=σ (3 * (fcol ts (u / 3)).toNat+u % 3:Nat))∧R (tupF τ 0 4))
def colT (ts:List TermM) (t:TermM):TermM:=if t.isVar then ⟨true,fcol ts t.num.toNat⟩ else t
def HeadC (ts:List TermM) (R:List Nat→Prop) (j:Nat) (σ:Int→Bool):Prop:=HeadB ts R σ∧∀ (p:Nat) (t:TermM),p<j→ts[p]?=some t→numA σ p=tnum σ (colT ts t)
theorem headC_step {ts:List TermM} {R:List Nat→Prop} {j:Nat} {t t':TermM} {σ:Int→Bool} (ht:ts[j]?=some t) (hc:colT ts t=t'):(HeadC ts R j σ∧numA σ j=tnum σ t')↔HeadC ts R (j+1) σ:=by
 constructor
 ·rintro ⟨⟨h1,h2⟩,h3⟩
  refine ⟨h1,fun p u hp hu=>?_⟩
  by_cases e:p<j
  ·exact h2 p u e hu
  ·have:p=j:=by omega
   subst this
   rw [ht] at hu
   cases hu
   rw [hc];exact h3
 ·exact fun h=>⟨⟨h.1,fun p u hp hu=>h.2 p u (by omega) hu⟩,by rw [←hc];exact h.2 j t (by omega) ht⟩
theorem four_at (a b c d:Int) {v:Nat} (h:v<4):(#[Value.int .i64 a,.int .i64 b,.int .i64 c,.int .i64 d]:Array Value)[v]?=some (.int .i64 ([a,b,c,d].getD v 0)):=by
 match v with
 | 0=>rfl
 | 1=>rfl
 | 2=>rfl
 | 3=>rfl
 | v+4=>omega
theorem Keeps.drop {b:Nat} {T:List Nat} {w w':World} (k:Keeps (b :: T) w w') (hb:w.heap.size≤b):Keeps T w w':=
 ⟨k.os,k.tape,k.output,k.size,fun i hi hn=>k.block i hi (not_cons (by omega) hn)⟩
theorem headB_iff {ts:List TermM} {R:List Nat→Prop} {G:Nat} {bys:List Int} {S:ST} {σ:Int→Bool} (hg:GoneIs (fcol ts) 12 G) (hby:ByIs S bys (hGs (fcol ts) 12)):(∃ τ:Int→Bool,(∀ v:Nat,v<12→G.testBit v=false→τ v=sbV S bys σ v)∧R (tupF τ 0 4))↔HeadB ts R σ:=by
 have key:∀ v:Nat,v<12→sbV S bys σ v=hG (fcol ts) 12 v σ:=fun v hv=>hby.val (by simp [hGs,hv]) σ
 have hb:∀ v:Nat,v<12→(G.testBit v=false↔0≤fcol ts (v / 3)):=fun v hv=>by
  have:=hg.2 v hv
  rw [←Bool.not_eq_true,this];omega
 unfold HeadB
 constructor
 ·rintro ⟨τ,h1,h2⟩
  refine ⟨τ,fun u hu h0=>?_,h2⟩
  rw [h1 u hu ((hb u hu).2 h0),key u hu]
  unfold hG
  rw [if_pos ⟨hu,h0⟩]
 ·rintro ⟨τ,h1,h2⟩
  refine ⟨τ,fun u hu h0=>?_,h2⟩
  have h0':=(hb u hu).1 h0
  rw [h1 u hu h0',key u hu]
  unfold hG
  rw [if_pos ⟨hu,h0'⟩]
theorem heads_calls {w:World} {B:SB} {S:ST} (hE:EngS w B S) {bb:Nat} (hb:BsAt w bb B) {f:Int} (ρ:Int) {g c:Nat} (ts:List TermM) (hg:g∉B.own) (hrow:TmRow w g ts) (htm:∀ t∈ts,TmOk t) (h4:ts.length≤3) {R:List Nat→Prop} (hf:Rep S f 4 R) (hl:S.next+33800000<lim) :
  Calls Tryz.prog 74 #[.pointer (some ⟨bb,0,none⟩),.int .i64 f,.agg #[.int .i64 ρ,.slice (some ⟨g,0,none⟩) ts.length c]] w (OutB B w S (fun σ=>HeadB ts R σ∧∀ (p:Nat) (t:TermM),ts[p]?=some t→numA σ p=tnum σ (colT ts t)) 33700000):=by
 have hfc:=hide (fun (W:World) (k:Keeps [] w W)=>first_calls (c:=c) ρ ts (hrow.keeps k (by simp)) (by omega))
 have kA:=Keeps.alloc [] w (.cells #[.int .i64 ρ,.slice (some ⟨g,0,none⟩) ts.length c] 151)
 have hA:=CellsAt.new w #[.int .i64 ρ,.slice (some ⟨g,0,none⟩) ts.length c] 151
 have hsA:=sizeE_alloc w (.cells #[.int .i64 ρ,.slice (some ⟨g,0,none⟩) ts.length c] 151)
 have Hl:=hide hl
 have Hfr:=hide (fun j (hj:w.heap.size≤j)=>hE.sat.fresh hj)
 have hidx:Hid (∀ v,v<4→[fcol ts 0,fcol ts 1,fcol ts 2,fcol ts 3].getD v 0=fcol ts v):=fun v hv=>by
  match v with
  | 0=>rfl
  | 1=>rfl
  | 2=>rfl
  | 3=>rfl
  | v+4=>omega
 generalize fcol ts 0=F0 at hfc hidx
 generalize fcol ts 1=F1 at hfc hidx
 generalize fcol ts 2=F2 at hfc hidx
 generalize fcol ts 3=F3 at hfc hidx
 clear hl
 go_enter Tryz.func74,Tryz.ntmps74
 go_wp2_with fail
 generalize hWA:w.alloc (.cells #[.int .i64 ρ,.slice (some ⟨g,0,none⟩) ts.length c] 151)=WA at kA hA hsA ⊢
 refine (hfc.out _ kA).mono ?_
 rintro e W1 ⟨rfl,k1⟩
 have kB:=Keeps.alloc [] W1 (.cells #[.int .i64 F0,.int .i64 F1,.int .i64 F2,.int .i64 F3] 216)
 have hB:=CellsAt.new W1 #[.int .i64 F0,.int .i64 F1,.int .i64 F2,.int .i64 F3] 216
 have hsB:=sizeE_alloc W1 (.cells #[.int .i64 F0,.int .i64 F1,.int .i64 F2,.int .i64 F3] 216)
 have hAB:=(hA.keeps k1 (by simp)).keeps kB (by simp)
 have kkB:=(kA.trans k1).trans kB
 have hbB:=hb.keeps kkB (by simp)
 have hEB:=hE.keeps0 kkB
 have hcB:=hbB.cell
 have hlt1:w.heap.size<W1.heap.size:=by have:=k1.size;omega
 have hvs:=hide (nvars_calls hEB.sat)
 rw [hEB.n] at hvs
 clear hfc hWA hcB
 have hcB:=hbB.cell
 generalize hWB:W1.alloc (.cells #[.int .i64 F0,.int .i64 F1,.int .i64 F2,.int .i64 F3] 216)=WB at *
 have hmk:(Instr.makeSlice 40 (.int .i64 12) (.int .i64 12)).run Tryz.prog WB=.ok (.slice (some ⟨WB.heap.size,0,none⟩) 12 12) (WB.alloc (.cells (madeCells #[.int .i64 0] 12) 3)):=run_makeE WB 12 (by omega)
 have hvs:Hid (Calls Tryz.prog 143 #[.pointer (some ⟨B.b,0,none⟩)] WB fun e w'=>e=.returned (.int .i64 12)∧w' = WB):=hvs
 go_wp2_with fail
 refine hvs.out.mono ?_
 rintro e W2 ⟨rfl,rfl⟩
 rename World=>WB
 have kC:=Keeps.alloc [] WB (.cells (madeCells #[.int .i64 0] 12) 3)
 have hC:RowIs (WB.alloc (.cells (madeCells #[.int .i64 0] 12) 3)) WB.heap.size (List.replicate 12 0):=by
  refine ⟨_,CellsAt.new _ _ _,fun i x hx=>?_⟩
  rw [List.getElem?_replicate] at hx
  split at hx
  ·rename_i hi
   cases hx
   exact made_intsE _ _ hi
  ·cases hx
 have kk:=kkB.trans kC
 have hBC:=hB.keeps kC (by simp)
 have hAC:=hAB.keeps kC (by simp)
 have hEC:=hE.keeps0 kk
 have hsz:WB.heap.size=W1.heap.size+1:=hsB
 clear hvs hA hAB kkB hbB hEB hcB hWB hB hsB kA kB k1 hsA
 generalize WB.alloc (.cells (madeCells #[.int .i64 0] 12) 3)=W2 at *
 rw [hsz] at hC hmk
 have q0:=hBC.cell 0
 have q1:=hBC.cell 1
 have q2:=hBC.cell 2
 have q3:=hBC.cell 3
 simp at q0 q1 q2 q3
 generalize hy:W1.heap.size=y at *
 clear hsz kC
 go_wp2_with fail
 clear hmk q0 q1 q2 q3
 go_loopw [9,24] (fun x y' wr=>∃ (v G:Nat) (bys:List Int) (S1:ST),x=.int .i64 G∧y' = .int .i64 v∧v≤4∧EngS wr B S1∧Keeps ((y+1) :: B.own) W2 wr∧Ext S S1∧S1.next≤S.next+3 * v∧GoneIs (fcol ts) (3 * v) G∧ByIs S1 bys (hGs (fcol ts) (3 * v))∧RowIs wr (y+1) bys) (fun _ y' _=>((4:Int) - intOf y').toNat)
 case atStart=>exact ⟨0,0,_,S,rfl,rfl,by omega,hEC,Keeps.refl _ _,Ext.refl S,by omega,⟨by decide,fun u hu=>by omega⟩,hGs_zero S _,hC⟩
 case round=>
  obtain ⟨v,G,bys,S1,rfl,rfl,hv,hEr,hk,hx,hn,hG,hby,hrr⟩:=hrel
  rename World=>wo
  have Hn:=hide hn
  clear hn
  by_cases hv4:v<4
  ·have hvI:(v:Int)<4:=by omega
   have hix:=fun w=>run_index4 F0 F1 F2 F3 v hv4 w
   rw [hidx.out v hv4] at hix
   have hq3:∀ i,i<3→(3 * v+i) / 3=v∧(3 * v+i) % 3=i:=fun i hi=>by omega
   have Hq3:=hide hq3
   have hneg:=fcol_neg ts v
   have HneG:=hide hneg
   clear hq3 hneg
   generalize hFv:fcol ts v=Fv at hix HneG
   have HFv:=hide hFv
   clear hFv
   go_wp2_with fail
   go_loopw [9,28] (fun x y' wr=>∃ (i G:Nat) (bys:List Int) (S2:ST),x=.int .i64 G∧y' = .int .i64 i∧i≤3∧EngS wr B S2∧Keeps ((y+1) :: B.own) W2 wr∧Ext S S2∧S2.next≤S.next+(3 * v+i)∧Hid (GoneIs (fcol ts) (3 * v+i) G)∧ByIs S2 bys (hGs (fcol ts) (3 * v+i))∧RowIs wr (y+1) bys) (fun _ y' _=>((3:Int) - intOf y').toNat)
   case atStart=>exact ⟨0,G,bys,S1,rfl,rfl,by omega,hEr,hk,hx,by have:=Hn.out;omega,hG,hby,hrr⟩
   case round=>
    clear hEr hk hx hG hby hrr Hn
    obtain ⟨i,G,bys,S2,rfl,rfl,hi,hEr,hk,hx,hn,hG,hby,hrr⟩:=hrel
    have Hn:=hide hn
    clear hn
    by_cases hi3:i<3
    ·have hiI:(i:Int)<3:=by omega
     obtain ⟨hq1,hq2⟩:=Hq3.out i hi3
     obtain ⟨q,hq⟩:∃ q,3 * v+i=q:=⟨_,rfl⟩
     have hq12:q<12:=by omega
     have hvc:=hide (fun W=>variable_calls W v i (by omega) (by omega))
     rw [hq] at hq1 hq2 hG hby hvc
     have Hq:=hide hq
     have Hq1:=hide hq1
     have Hq2:=hide hq2
     have Hfq:Hid (fcol ts (q / 3)=Fv):=by rw [hq1];exact HFv.out
     rcases HneG.out with hneg | ⟨p,hp⟩
     ·have hgn:=hide (hG.out.add (by rw [Hfq.out];exact hneg))
      have hgs:=hGs_skip (fc:=fcol ts) (q:=q) (by rw [Hfq.out];exact hneg)
      have Hby:Hid (ByIs S2 bys (hGs (fcol ts) (q+1))):=by rw [hgs];exact hby
      have hor:=or_pow hG.out.1 hq12
      have hpw:=pow_i hq12
      clear hq hq1 hq2 hgs hby hG
      generalize 2 ^ q=A at hor hpw hgn
      generalize G+A=G2 at hor hgn
      go_wp2_with fail
      refine (hvc.out _).mono ?_
      rintro e W5 ⟨rfl,rfl⟩
      go_wp2_with fail
      go_roundw
      ·exact ⟨i+1,G2,bys,S2,rfl,by simp,by omega,hEr,hk,hx,by have:=Hn.out;push_cast;omega,by have:=hgn.out;rw [←Hq.out] at this;exact this,by have:=Hby.out;rw [←Hq.out] at this;exact this,hrr⟩
      ·simp only [intOf];omega
     ·subst hp
      obtain ⟨tp,htp,_⟩:=fcol_lt HFv.out
      have hp3:p<3:=by have:=(List.getElem?_eq_some_iff.1 htp).1;omega
      have hdn:decide ((p:Int)<0)=false:=by simp
      have hgn:=hide (hG.out.skip (by rw [Hfq.out];omega))
      have hvp:=hide (fun W=>variable_calls W p i (by omega) (by omega))
      have hvar:=hide (fun (W:World) (k:Keeps [] wr W)=>var_E (hEr.keeps0 k) (3 * p+i) (by omega) (by have:=Hl.out;have:=Hn.out;omega))
      have hbr:=hb.keeps ((kk.mono (by simp)).trans_new hk (fun j hj=>.inl hj)) (by
       intro hm
       rcases List.mem_cons.1 hm with e | hm
       ·have:=hb.lt;omega
       ·exact hb.no hm)
      have g0:=hbr.cell
      have hqI:(q:Int)<12:=by omega
      have hbl:bys.length=12:=by rw [hby.1];simp [hGs]
      obtain ⟨zz,hzz⟩:∃ z,bys[q]?=some z:=⟨bys[q]'(by omega),List.getElem?_eq_getElem _⟩
      have hgb:(y+1)∉B.own:=Hfr.out _ (by omega)
      have Hbl:=hide hbl
      have Hzz:=hide hzz
      have Hpi:=hide (rfl:3 * p+i=3 * p+i)
      clear hq hq1 hq2 hG htp hbl hzz
      generalize hr:3 * p+i=rr at hvp hvar Hpi
      have Hr:=hide hr
      clear hr
      have hbny:bb∉[y+1]:=by have:=hb.lt;simp;omega
      have h7:=hide (fun (W7:World) (k3:Keeps B.own wr.drew W7)=>And.intro ((hbr.keeps (Keeps.drew [] wr) (by simp)).own k3).cell (And.intro (((hrr.keepsE (Keeps.drew [] wr) (by simp)).keepsE k3 hgb).cell Hzz.out) (And.intro (((hrr.keepsE (Keeps.drew [] wr) (by simp)).keepsE k3 hgb).frozenE q) (fun v=>(((hbr.keeps (Keeps.drew [] wr) (by simp)).own k3).keeps (Keeps.setCell W7 ⟨y+1,q,none⟩ v) hbny).cell))))
      go_wp2_with fail
      go_region_held3 (fun w'=>w'.cell? ⟨bb,4,none⟩=some (.pointer (some ⟨B.b,0,none⟩))) (first | exact g0 | exact a0 | exact a3 _)
       (first
       | (go_at_call_of 144 (Value.int IntKind.i64 (v:Int))
          refine (hvc.out _).mono ?_
          rintro e W5 ⟨rfl,rfl⟩)
       | (go_at_call_of 144 (Value.int IntKind.i64 (p:Int))
          refine (hvp.out _).mono ?_
          rintro e W6 ⟨rfl,rfl⟩)
       | (go_at_call 145
          refine (hvar.out _ (Keeps.drew [] _)).mono ?_
          rintro e W7 ⟨r1,S3,rfl,hE3,k3,x3,n3,hr3⟩
          obtain ⟨a0,a1,a2,a3⟩:=h7.out W7 k3))
      all_goals
       have hrw:=(hrr.keepsE (Keeps.drew [] wr) (by simp)).keepsE k3 hgb
       have Hst:=hide (hrw.setE q r1)
       have kS:=Keeps.setCell W7 ⟨y+1,q,none⟩ (.int .i64 r1)
       have hES:=hE3.keeps kS (fun j hj hm=>hgb (by simp only [List.mem_singleton] at hm;rw [←hm];exact hj))
       clear hrw
       go_wp2_with fail
       go_roundw
       ·refine ⟨i+1,G,bys.set q r1,S3,rfl,by simp,by omega,hES,((hk.trans ((Keeps.drew [] wr).mono (by simp))).trans (k3.mono (fun j hj=>List.mem_cons_of_mem _ hj))).trans (kS.mono (by simp)),hx.trans x3,by have:=Hn.out;push_cast;omega,by have:=hgn.out;rw [←Hq.out] at this;exact this,?_,Hst.out⟩
        have:=(hby.ext x3 hEr.wf hE3.wf).put hq12 (by rw [Hfq.out];omega) (by rw [Hfq.out,Int.toNat_natCast,Hq2.out,Hr.out];exact hr3)
        rw [←Hq.out] at this ⊢
        exact this
       ·simp only [intOf];omega
    ·have hiI:¬ (i:Int)<3:=by omega
     have e:i=3:=by omega
     subst e
     go_wp2_with fail
     go_roundw
     ·exact ⟨v+1,G,bys,S2,rfl,by simp,by omega,hEr,hk,hx,by have:=Hn.out;push_cast;omega,hG.out,hby,hrr⟩
     ·simp only [intOf];omega
  ·have hvI:¬ (v:Int)<4:=by omega
   have e:v=4:=by omega
   subst e
   have hG12:G<4096:=hG.1
   have hgb:(y+1)∉B.own:=Hfr.out _ (by omega)
   have kw:Keeps ((y+1) :: B.own) w wo:=(kk.mono (by simp)).trans hk
   have hyb:bb∉(y+1) :: B.own:=by
    intro hm
    rcases List.mem_cons.1 hm with e | hm
    ·have:=hb.lt;omega
    ·exact hb.no hm
   have hbr:=hb.keeps kw hyb
   have g0:=hbr.cell
   have hbl:bys.length=12:=by rw [hby.1];simp [hGs]
   have hfr:RepB S1 f (fun σ=>R (tupF σ 0 4)):=RepB.ext ⟨hf.1,hf.2⟩ hx hE.wf hEr.wf
   have h1:=hide (fun (W:World) (k:Keeps [] wo W)=>exists_E (hEr.keeps0 k) (X:=G) hfr hG12 (by have:=Hl.out;have:=Hn.out;omega))
   have h2:=hide (fun (W:World) (S3:ST) (r1:Int) (hE3:EngS W B S3) (k3:Keeps B.own wo.drew W) (x3:Ext S1 S3) (n3:S3.next≤S1.next+16773120) (ok3:S3.ok r1)=>subst_E (ct:=12) hE3 (k:=12) ok3 (fun u u0 u1=>by rw [hE3.n] at u1;omega) ((hrr.keepsE (Keeps.drew [] wo) (by simp)).keepsE k3 hgb) hgb (by omega) (fun b hb'=>x3.ok (hby.ok b hb')) (by have:=Hl.out;have:=Hn.out;omega))
   rw [hbl] at h2
   have h7:=hide (fun (W7:World) (k3:Keeps B.own wo.drew W7)=>((hbr.keeps (Keeps.drew [] wo) (by simp)).own k3).cell)
   have HG:=hide hG
   have Hby:=hide hby
   have Hbl:=hide hbl
   clear hG hby hbl hG12
   go_wp2_with fail
   go_region_held3 (fun w'=>w'.cell? ⟨bb,4,none⟩=some (.pointer (some ⟨B.b,0,none⟩))) (first | exact g0 | exact a0 | exact a1)
    (first
    | (go_at_call 147
       refine (h1.out _ (Keeps.drew [] _)).mono ?_
       rintro e W5 ⟨r1,S3,rfl,hE3,k3,x3,n3,hr3⟩
       have a0:=h7.out W5 k3)
    | (go_at_call 146
       refine (h2.out _ S3 r1 hE3 k3 x3 n3 hr3.1).mono ?_
       rintro e W6 ⟨r2,S4,rfl,hE4,k4,x4,n4,hr4⟩
       have a1:=h7.out W6 (k3.trans k4)))
   all_goals
    have kW:Keeps ((y+1) :: B.own) W2 W6:=(hk.trans ((Keeps.drew [] wo).mono (by simp))).trans ((k3.trans k4).mono (fun j hj=>List.mem_cons_of_mem _ hj))
    have hA6:=hAC.keeps kW (not_cons (by omega) (Hfr.out _ (Nat.le_refl _)))
    have hB6:=hBC.keeps kW (not_cons (by omega) (Hfr.out _ (by omega)))
    have kw6:Keeps ((y+1) :: B.own) w W6:=(kk.mono (by simp)).trans kW
    have hr6:=hrow.keeps kw6 (not_cons (by have:=hrow.1;omega) hg)
    have hb6:=hb.keeps kw6 hyb
    have hX:=hide (hx.trans (x3.trans x4))
    have hN:=hide (show S4.next≤S.next+33542157 by have:=Hn.out;omega)
    have hR4:RepB S4 r2 (HeadB ts R):=⟨hr4.1,fun σ=>by
     rw [hr4.2]
     show S3.den r1 (sbV S3 bys σ)=true↔HeadB ts R σ
     rw [hr3.2]
     exact headB_iff HG.out (Hby.out.ext x3 hEr.wf hE3.wf)⟩
    have s1:=hA6.cell 1
    simp at s1
    clear h1 h2 h7 HG Hby Hbl hr3 hr4 hfr hx x3 x4 Hn n3 n4 hbr g0 a0 a1 hrr hC hEC hAC hBC hk k3 k4 hEr hE3
    go_wp2_with fail
    go_loopw [1,70] (fun x y' wr=>∃ (j:Nat) (r:Int) (S5:ST),x=.int .i64 r∧y' = .int .i64 j∧j≤ts.length∧EngS wr B S5∧Keeps B.own W6 wr∧Ext S4 S5∧S5.next≤S4.next+40956 * j∧RepB S5 r (HeadC ts R j)) (fun _ y' _=>((ts.length:Int) - intOf y').toNat)
    case atStart=>exact ⟨0,r2,S4,rfl,rfl,by omega,hE4,Keeps.refl _ _,Ext.refl S4,by omega,hR4.1,fun σ=>by rw [hR4.2];simp [HeadC]⟩
    case round=>
     obtain ⟨j,r,S5,rfl,rfl,hj,hEr,hkj,hxj,hn5,hrj⟩:=hrel
     have Hn5:=hide hn5
     clear hn5 s1
     have hbr:=hb6.own hkj
     by_cases hjl:j<ts.length
     ·have hjI:(j:Int)<ts.length:=by omega
      have hrr:=hr6.keeps hkj hg
      have hBr:=hB6.keeps hkj (Hfr.out _ (by omega))
      obtain ⟨t,ht⟩:∃ t,ts[j]?=some t:=⟨_,List.getElem?_eq_getElem hjl⟩
      obtain ⟨g1,g2⟩:=hrr.2 j t ht
      have hto:=htm t (List.mem_of_getElem? ht)
      have Htj:=hide ht
      have htm':=List.mem_of_getElem? ht
      obtain ⟨b,m⟩:=t
      obtain ⟨v,rfl⟩:∃ v:Nat,m=v:=Int.eq_ofNat_of_zero_le hto.1
      simp only at g1 g2
      cases b with
      | true=>
       have hv4:v<4:=by have:=hto.2.2 rfl;simp only at this;omega
       have hvI:(v:Int)<4:=by omega
       obtain ⟨p,hp⟩:=fcol_of htm' rfl rfl
       obtain ⟨tp,htp,_⟩:=fcol_lt hp
       have hp3:p<3:=by have:=(List.getElem?_eq_some_iff.1 htp).1;omega
       have hcv:wr.cell? ⟨y,v,none⟩=some (.int .i64 (fcol ts v)):=by
        rw [hBr.cell,←hidx.out v hv4]
        exact four_at F0 F1 F2 F3 hv4
       have hcv2:(wr.alloc (.cells #[.bool true,.int .i64 (v:Int)] 220)).cell? ⟨y,v,none⟩=some (.int .i64 (fcol ts v)):=by rw [cell_kept (Keeps.alloc [] wr _) hBr.lt (by simp)];exact hcv
       have Hct:Hid (colT ts ⟨true,(v:Int)⟩=⟨true,fcol ts v⟩):=by simp [colT,Hid]
       have Hok:Hid (TmOk ⟨true,fcol ts v⟩):=by rw [hp];exact ⟨by simp only;omega,by simp only;omega,fun _=>by simp only;omega⟩
       clear hp htp ht hto htm'
       generalize hFv:fcol ts v=Fv at hcv hcv2 Hct Hok
       clear hFv
       have kT:=Keeps.alloc [] wr (.cells #[.bool true,.int .i64 Fv] 220)
       have hT:=CellsAt.new wr #[.bool true,.int .i64 Fv] 220
       have hzo:wr.heap.size∉B.own:=hEr.sat.fresh (Nat.le_refl _)
       have hbT:=hbr.keeps kT (by simp)
       have heq:=hide (equal_calls (hEr.keeps0 (kT.trans (Keeps.drew [] _))) (hbT.keeps (Keeps.drew [] _) (by simp)) j (by omega) ⟨true,Fv⟩ Hok.out (by have:=Hl.out;have:=hN.out;have:=Hn5.out;omega))
       simp only [tmV] at heq
       generalize hWT:wr.alloc (.cells #[.bool true,.int .i64 Fv] 220)=WT at *
       have e0:=hbT.cell
       have e1:=hT.cell 0
       have e2:=hT.cell 1
       simp at e1 e2
       go_wp2_with fail
       have h7:=hide (fun (W7:World) (k:Keeps B.own WT.drew W7)=>And.intro ((hbT.keeps (Keeps.drew [] _) (by simp)).own k).cell (And.intro (((hT.keeps (Keeps.drew [] _) (by simp)).keeps k hzo).cell 0) (((hT.keeps (Keeps.drew [] _) (by simp)).keeps k hzo).cell 1)))
       go_region_held3 (fun w'=>w'.cell? ⟨bb,4,none⟩=some (.pointer (some ⟨B.b,0,none⟩))∧w'.cell? ⟨wr.heap.size,0,none⟩=some (.bool true)∧w'.cell? ⟨wr.heap.size,1,none⟩=some (.int .i64 Fv)) (first | exact ⟨e0,e1,e2⟩ | exact a7 | exact a8)
        (first
        | (go_at_call 149
           refine heq.out.mono ?_
           rintro e W7 ⟨r7,S7,rfl,hE7,k7,x7,n7,hr7⟩
           have a7:=h7.out W7 k7)
        | (go_at_call 148
           refine (and_E hE7 (hrj.ext x7 hEr.wf hE7.wf) hr7 (by have:=Hl.out;have:=hN.out;have:=Hn5.out;omega)).mono ?_
           rintro e W8 ⟨r8,S8,rfl,hE8,k8,x8,n8,hr8⟩
           have a8:=h7.out W8 (k7.trans k8)))
       all_goals
        go_wp2_with fail
        go_roundw
        ·refine ⟨j+1,r8,S8,rfl,by simp,by omega,hE8,(hkj.trans (((kT.trans (Keeps.drew [] _)).mono (by simp)).trans k7)).trans k8,hxj.trans (x7.trans x8),by have:=Hn5.out;push_cast;omega,hr8.1,fun σ=>?_⟩
         rw [hr8.2]
         exact headC_step Htj.out Hct.out
        ·simp only [intOf];omega
      | false=>
       have Hct:Hid (colT ts ⟨false,(v:Int)⟩=⟨false,(v:Int)⟩):=by simp [colT,Hid]
       have Hok:Hid (TmOk ⟨false,(v:Int)⟩):=hto
       clear ht hto htm'
       have kT:=Keeps.alloc [] wr (.cells #[.bool false,.int .i64 (v:Int)] 220)
       have hT:=CellsAt.new wr #[.bool false,.int .i64 (v:Int)] 220
       have hzo:wr.heap.size∉B.own:=hEr.sat.fresh (Nat.le_refl _)
       have hbT:=hbr.keeps kT (by simp)
       have heq:=hide (equal_calls (hEr.keeps0 (kT.trans (Keeps.drew [] _))) (hbT.keeps (Keeps.drew [] _) (by simp)) j (by omega) ⟨false,(v:Int)⟩ Hok.out (by have:=Hl.out;have:=hN.out;have:=Hn5.out;omega))
       simp only [tmV] at heq
       generalize hWT:wr.alloc (.cells #[.bool false,.int .i64 (v:Int)] 220)=WT at *
       have e0:=hbT.cell
       have e1:=hT.cell 0
       have e2:=hT.cell 1
       simp at e1 e2
       go_wp2_with fail
       have h7:=hide (fun (W7:World) (k:Keeps B.own WT.drew W7)=>And.intro ((hbT.keeps (Keeps.drew [] _) (by simp)).own k).cell (And.intro (((hT.keeps (Keeps.drew [] _) (by simp)).keeps k hzo).cell 0) (((hT.keeps (Keeps.drew [] _) (by simp)).keeps k hzo).cell 1)))
       go_region_held3 (fun w'=>w'.cell? ⟨bb,4,none⟩=some (.pointer (some ⟨B.b,0,none⟩))∧w'.cell? ⟨wr.heap.size,0,none⟩=some (.bool false)∧w'.cell? ⟨wr.heap.size,1,none⟩=some (.int .i64 (v:Int))) (first | exact ⟨e0,e1,e2⟩ | exact a7 | exact a8)
        (first
        | (go_at_call 149
           refine heq.out.mono ?_
           rintro e W7 ⟨r7,S7,rfl,hE7,k7,x7,n7,hr7⟩
           have a7:=h7.out W7 k7)
        | (go_at_call 148
           refine (and_E hE7 (hrj.ext x7 hEr.wf hE7.wf) hr7 (by have:=Hl.out;have:=hN.out;have:=Hn5.out;omega)).mono ?_
           rintro e W8 ⟨r8,S8,rfl,hE8,k8,x8,n8,hr8⟩
           have a8:=h7.out W8 (k7.trans k8)))
       all_goals
        go_wp2_with fail
        go_roundw
        ·refine ⟨j+1,r8,S8,rfl,by simp,by omega,hE8,(hkj.trans (((kT.trans (Keeps.drew [] _)).mono (by simp)).trans k7)).trans k8,hxj.trans (x7.trans x8),by have:=Hn5.out;push_cast;omega,hr8.1,fun σ=>?_⟩
         rw [hr8.2]
         exact headC_step Htj.out Hct.out
        ·simp only [intOf];omega
     ·have hjI:¬ (j:Int)<ts.length:=by omega
      have e:j=ts.length:=by omega
      subst e
      go_wp2_with fail
      go_ret
      refine ⟨r,S5,rfl,hEr,?_,hX.out.trans hxj,by have:=hN.out;have:=Hn5.out;omega,hrj.1,fun σ=>?_⟩
      ·exact (kw6.trans (hkj.mono (fun q hq=>List.mem_cons_of_mem _ hq))).drop (by omega)
      ·rw [hrj.2]
       exact ⟨fun h=>⟨h.1,fun p t hp=>h.2 p t (List.getElem?_eq_some_iff.1 hp).1 hp⟩,fun h=>⟨h.1,fun p t _ hp=>h.2 p t hp⟩⟩
end
section
open Go.RowKit
def tvR (ρ:List Nat) (t:TermM):Nat:=if t.isVar then ρ.getD t.num.toNat 0 else t.num.toNat
theorem OutB.iff {B:SB} {w:World} {S:ST} {F G:(Int→Bool)→Prop} {c:Int} {e:Ending} {w':World} (h:OutB B w S F c e w') (hi:∀ σ,F σ↔G σ):OutB B w S G c e w':=by
 obtain ⟨r,S',h1,h2,h3,h4,h5,h6,h7⟩:=h
 exact ⟨r,S',h1,h2,h3,h4,h5,h6,fun σ=>by rw [h7,hi]⟩
theorem numA_lt (σ:Int→Bool) (p:Nat):numA σ p<8:=by
 unfold numA
 cases σ (3 * p:Nat) <;> cases σ (3 * p+1:Nat) <;> cases σ (3 * p+2:Nat) <;> decide
theorem tupF_len (σ:Int→Bool):∀ (c p:Nat),(tupF σ p c).length=c
 | 0,_=>rfl
 | c+1,p=>by simp [tupF,tupF_len σ c (p+1)]
theorem tupF_at (σ:Int→Bool):∀ (c p j:Nat),j<c→(tupF σ p c)[j]?=some (numA σ (p+j))
 | 0,_,_,h=>by omega
 | c+1,p,0,_=>rfl
 | c+1,p,j+1,h=>by simp only [tupF,List.getElem?_cons_succ];rw [tupF_at σ c (p+1) j (by omega)];congr 2;omega
theorem tupF_get (σ:Int→Bool) {c j:Nat} (h:j<c):(tupF σ 0 c).getD j 0=numA σ j:=by
 rw [List.getD_eq_getElem?_getD,tupF_at σ c 0 j h,Nat.zero_add];rfl
theorem tupF_mem (σ:Int→Bool):∀ (c p:Nat),tupF σ p c∈alls c
 | 0,_=>by simp [tupF,alls]
 | c+1,p=>by
  simp only [tupF,alls,List.mem_flatMap,List.mem_range,List.mem_map]
  exact ⟨_,numA_lt σ p,_,tupF_mem σ c (p+1),rfl⟩
theorem alls_tup {c:Nat} {l:List Nat} (h:l∈alls c):∃ σ,tupF σ 0 c=l:=by
 have:=asgs_tups c 0
 rw [←this] at h
 obtain ⟨y,_,rfl⟩:=List.mem_map.1 h
 exact ⟨_,rfl⟩
theorem alls_iff {c:Nat} {l:List Nat}:l∈alls c↔l.length=c∧∀ x∈l,x<8:=by
 induction c generalizing l with
 | zero=>simp only [alls,List.mem_singleton];constructor
         ·rintro rfl;simp
         ·rintro ⟨h,_⟩;exact List.eq_nil_of_length_eq_zero h
 | succ c ih=>
  simp only [alls,List.mem_flatMap,List.mem_range,List.mem_map]
  constructor
  ·rintro ⟨d,hd,m,hm,rfl⟩
   obtain ⟨h1,h2⟩:=ih.1 hm
   refine ⟨by simp [h1],fun x hx=>?_⟩
   rcases List.mem_cons.1 hx with rfl | hx
   ·exact hd
   ·exact h2 x hx
  ·rintro ⟨h1,h2⟩
   cases l with
   | nil=>simp at h1
   | cons d m=>exact ⟨d,h2 d (by simp),m,ih.2 ⟨by simpa using h1,fun x hx=>h2 x (List.mem_cons_of_mem _ hx)⟩,rfl⟩
theorem tnum_tv (σ:Int→Bool) {t:TermM} (ht:TmOk t):tnum σ t=tvR (tupF σ 0 4) t:=by
 unfold tnum tvR
 obtain ⟨h0,_,h4⟩:=ht
 cases hv:t.isVar with
 | true=>simp only [if_true];rw [tupF_get σ (by have:=h4 hv;omega)]
 | false=>rfl
theorem tnum_map (σ:Int→Bool) {ts:List TermM} (ht:∀ t∈ts,TmOk t):ts.map (tnum σ)=ts.map (tvR (tupF σ 0 4)):=List.map_congr_left fun t h=>tnum_tv σ (ht t h)
theorem heads_iff {ts:List TermM} {R:List Nat→Prop} (htm:∀ t∈ts,TmOk t) (σ:Int→Bool):(HeadB ts R σ∧∀ (p:Nat) (t:TermM),ts[p]?=some t→numA σ p=tnum σ (colT ts t))↔∃ ρ,ρ∈alls 4∧R ρ∧ts.map (tvR ρ)=tupF σ 0 ts.length:=by
 have hnum:∀ (τ:Int→Bool) (v:Nat),v<4→(tupF τ 0 4).getD v 0=numA τ v:=fun τ v hv=>tupF_get τ hv
 constructor
 ·rintro ⟨⟨τ,h1,h2⟩,h3⟩
  refine ⟨tupF τ 0 4,tupF_mem τ 4 0,h2,?_⟩
  apply List.ext_getElem?
  intro p
  by_cases hp:p<ts.length
  ·obtain ⟨t,ht⟩:∃ t,ts[p]?=some t:=⟨_,List.getElem?_eq_getElem hp⟩
   have hm:=List.mem_of_getElem? ht
   have hto:=htm t hm
   rw [List.getElem?_map,ht,tupF_at σ _ 0 p hp,Nat.zero_add,Option.map_some,h3 p t ht]
   congr 1
   unfold tvR colT tnum
   cases hv:t.isVar with
   | false=>simp [hv]
   | true=>
    simp only [if_true]
    have hv4:=hto.2.2 hv
    obtain ⟨v,hvn⟩:=Int.eq_ofNat_of_zero_le hto.1
    rw [hvn,Int.toNat_natCast]
    obtain ⟨q,hq⟩:=fcol_of hm hv hvn
    rw [hq,Int.toNat_natCast,hnum τ v (by omega)]
    unfold numA
    have key:∀ i,i<3→τ (3 * v+i:Nat)=σ (3 * q+i:Nat):=fun i hi=>by
     have e1:(3 * v+i) / 3=v:=by omega
     have e2:(3 * v+i) % 3=i:=by omega
     have:=h1 (3 * v+i) (by omega) (by rw [e1,hq];omega)
     rw [e1,e2,hq,Int.toNat_natCast] at this
     exact this
    have k0:=key 0 (by omega)
    simp only [Nat.add_zero] at k0
    rw [k0,key 1 (by omega),key 2 (by omega)]
  ·rw [List.getElem?_eq_none (by simp;omega),List.getElem?_eq_none (by rw [tupF_len];omega)]
 ·rintro ⟨ρ,h1,h2,h3⟩
  obtain ⟨τ,rfl⟩:=alls_tup h1
  have col:∀ (p:Nat) (t:TermM),ts[p]?=some t→numA σ p=tvR (tupF τ 0 4) t:=fun p t ht=>by
   have hp:=(List.getElem?_eq_some_iff.1 ht).1
   have:=congrArg (·[p]?) h3
   simp only [List.getElem?_map,ht,Option.map_some] at this
   rw [tupF_at σ _ 0 p hp,Nat.zero_add] at this
   exact (Option.some.inj this).symm
  have colv:∀ (v q:Nat),v<4→fcol ts v=q→numA σ q=numA τ v:=fun v q hv hq=>by
   obtain ⟨t,ht,htv,htn⟩:=fcol_lt hq
   rw [col q t ht]
   unfold tvR
   rw [if_pos htv,htn,Int.toNat_natCast,hnum τ v hv]
  refine ⟨⟨τ,fun u hu h0=>?_,h2⟩,fun p t ht=>?_⟩
  ·obtain ⟨q,hq⟩:=Int.eq_ofNat_of_zero_le h0
   have:=colv (u / 3) q (by omega) hq
   unfold numA at this
   obtain ⟨b0,b1,b2⟩:=num_eq.1 this
   rw [hq,Int.toNat_natCast]
   have e:u=3 * (u / 3)+u % 3:=by omega
   have h3:u % 3<3:=by omega
   generalize u / 3=v at *
   generalize u % 3=i at *
   subst e
   match i with
   | 0=>exact b0.symm
   | 1=>exact b1.symm
   | 2=>exact b2.symm
   | i+3=>omega
  ·rw [col p t ht]
   have hm:=List.mem_of_getElem? ht
   have hto:=htm t hm
   unfold tvR colT tnum
   cases hv:t.isVar with
   | false=>simp [hv]
   | true=>
    simp only [if_true]
    have hv4:=hto.2.2 hv
    obtain ⟨v,hvn⟩:=Int.eq_ofNat_of_zero_le hto.1
    rw [hvn,Int.toNat_natCast]
    obtain ⟨q,hq⟩:=fcol_of hm hv hvn
    rw [hq,Int.toNat_natCast,hnum τ v (by omega),colv v q (by omega) hq]
section
variable {w:World} {B:SB} {S:ST} {bb g c:Nat} {f ρ:Int} {ts:List TermM} {R:List Nat→Prop}
theorem where_R (hE:EngS w B S) (hb:BsAt w bb B) (hg:g∉B.own) (hrow:TmRow w g ts) (htm:∀ t∈ts,TmOk t) (h1:0<ts.length) (h4:ts.length≤4) (hf:Rep S f ts.length R) (hl:S.next+16769100<lim) :
  Calls Tryz.prog 262 #[.pointer (some ⟨bb,0,none⟩),.int .i64 f,.agg #[.int .i64 ρ,.slice (some ⟨g,0,none⟩) ts.length c]] w (OutB B w S (fun σ=>R (ts.map (tvR (tupF σ 0 4)))) 16769037):=
 (where_calls hE hb ρ ts hg hrow htm h1 h4 hf hl).mono fun _ _ h=>h.iff fun σ=>by rw [tnum_map σ htm]
theorem heads_R (hE:EngS w B S) (hb:BsAt w bb B) (hg:g∉B.own) (hrow:TmRow w g ts) (htm:∀ t∈ts,TmOk t) (h4:ts.length≤3) (hf:Rep S f 4 R) (hl:S.next+33800000<lim) :
  Calls Tryz.prog 74 #[.pointer (some ⟨bb,0,none⟩),.int .i64 f,.agg #[.int .i64 ρ,.slice (some ⟨g,0,none⟩) ts.length c]] w (OutB B w S (fun σ=>∃ ρ,ρ∈alls 4∧R ρ∧ts.map (tvR ρ)=tupF σ 0 ts.length) 33700000):=
 (heads_calls hE hb ρ ts hg hrow htm h4 hf hl).mono fun _ _ h=>h.iff fun σ=>heads_iff htm σ
end
end
section
open Go.RowKit
def r3 (d:Nat):Nat:=4 * (d % 2)+2 * (d / 2 % 2)+d / 4 % 2
def asnF:List Nat→Nat→Nat
 | [],_=>0
 | d :: l,p=>asnF l (p+1)+r3 d * 2 ^ (3 * p)
def asn (l:List Nat):Nat:=asnF l 0
theorem r3_lt (d:Nat):r3 d<8:=by unfold r3;omega
theorem r3_bits:∀ d,d<8→4 * ((r3 d).testBit 0).toNat+2 * ((r3 d).testBit 1).toNat+((r3 d).testBit 2).toNat=d:=by decide
theorem asnF_mul:∀ (l:List Nat) (p:Nat),∃ z,asnF l p=z * 2 ^ (3 * p)
 | [],_=>⟨0,by simp [asnF]⟩
 | d :: l,p=>by
  obtain ⟨z,hz⟩:=asnF_mul l (p+1)
  refine ⟨z * 8+r3 d,?_⟩
  simp only [asnF]
  rw [hz,show 3 * (p+1)=3 * p+3 by omega,Nat.pow_add,Nat.add_mul,Nat.mul_assoc,Nat.mul_comm (2 ^ (3 * p)) (2 ^ 3),show (2:Nat) ^ 3=8 from rfl]
theorem asn_bit (d:Nat) (l:List Nat) (p v:Nat) (h:3 * p≤v):(asnF (d :: l) p).testBit v=if v<3 * p+3 then (r3 d).testBit (v - 3 * p) else (asnF l (p+1)).testBit v:=by
 obtain ⟨z,hz⟩:=asnF_mul l (p+1)
 have:=bit_over z (r3 d) (3 * p) 3 v (r3_lt d)
 rw [show 3 * p+3=3 * (p+1) by omega] at this
 simp only [asnF]
 rw [hz,this,if_neg (by omega),show 3 * (p+1)=3 * p+3 by omega]
theorem tup_asn:∀ {c:Nat} {l:List Nat} (p:Nat),l∈alls c→tupF (asg (asnF l p:Nat)) p c=l
 | 0,l,p,h=>by simp [alls] at h;subst h;rfl
 | c+1,l,p,h=>by
  simp only [alls,List.mem_flatMap,List.mem_range,List.mem_map] at h
  obtain ⟨d,hd,m,hm,rfl⟩:=h
  have hb:∀ v:Nat,3 * p≤v→asg ((asnF (d :: m) p:Nat):Int) (v:Int)=if v<3 * p+3 then (r3 d).testBit (v - 3 * p) else asg ((asnF m (p+1):Nat):Int) (v:Int):=fun v hv=>by
   show bitB _ _=if _ then _ else bitB _ _
   rw [bitN,bitN,asn_bit d m p v hv]
  simp only [tupF]
  congr 1
  ·unfold numA
   rw [hb _ (by omega),hb _ (by omega),hb _ (by omega),if_pos (by omega),if_pos (by omega),if_pos (by omega),Nat.sub_self,show 3 * p+1 - 3 * p=1 by omega,show 3 * p+2 - 3 * p=2 by omega]
   exact r3_bits d hd
  ·refine (tupF_congr c (p+1) fun v h1 h2=>?_).trans (tup_asn (p+1) hm)
   rw [hb v (by omega),if_neg (by omega)]
theorem asn_inj {c:Nat} {l m:List Nat} (hl:l∈alls c) (hm:m∈alls c) (h:asn l=asn m):l=m:=by
 have h1:=tup_asn 0 hl
 have h2:=tup_asn 0 hm
 unfold asn at h
 rw [h,h2] at h1
 exact h1.symm
theorem asgs_asn:∀ (c p:Nat),asgs (3 * c) (3 * p)=(alls c).map (asnF · p)
 | 0,p=>by simp [asgs,alls,asnF]
 | c+1,p=>by
  have ih:=asgs_asn c (p+1)
  rw [show 3 * (c+1)=3 * c+1+1+1 by omega]
  have e3:3 * p+1+1+1=3 * (p+1):=by omega
  have hp1:2 ^ (3 * p+1)=2 * 2 ^ (3 * p):=by rw [Nat.pow_succ,Nat.mul_comm]
  have hp2:2 ^ (3 * p+1+1)=4 * 2 ^ (3 * p):=by rw [Nat.pow_succ,Nat.pow_succ];omega
  have e5:∀ q:Nat,4 * q+q=5 * q:=fun q=>by omega
  have e3':∀ q:Nat,2 * q+q=3 * q:=fun q=>by omega
  have e7:∀ q:Nat,6 * q+q=7 * q:=fun q=>by omega
  simp only [asgs,e3,ih,hp1,hp2,List.map_append,List.map_map,List.append_assoc]
  simp [alls,List.range_succ,asnF,r3,Function.comp_def,Nat.add_assoc,←Nat.add_mul,e5,e3',e7]
theorem trues_rep {S:ST} {f:Int} {c:Nat} {R:List Nat→Prop} (h:Rep S f c R):∀ y,y∈S.trues f (3 * c)↔∃ l,l∈alls c∧R l∧y=asn l:=by
 intro y
 unfold ST.trues
 rw [List.mem_filter,show (0:Nat)=3 * 0 from rfl,asgs_asn c 0,List.mem_map]
 constructor
 ·rintro ⟨⟨l,hl,rfl⟩,hd⟩
  refine ⟨l,hl,?_,rfl⟩
  have:=(h.2 _).1 hd
  rwa [tup_asn 0 hl] at this
 ·rintro ⟨l,hl,hr,rfl⟩
  refine ⟨⟨l,hl,rfl⟩,(h.2 _).2 ?_⟩
  unfold asn
  rwa [tup_asn 0 hl]
end
end Go.Proofs.YtgjomknpjigkhaaGreatDoor
