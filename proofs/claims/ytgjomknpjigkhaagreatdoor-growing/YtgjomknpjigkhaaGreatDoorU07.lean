import Derived.Test.YtgjomknpjigkhaaGreatDoorU04
import Derived.Test.YtgjomknpjigkhaaGreatDoorU05
import Derived.Test.YtgjomknpjigkhaaGreatDoorU06
import Derived.Deep.RegionWith
import Derived.StillTail
namespace Go.Proofs.YtgjomknpjigkhaaGreatDoor
open Go.Proofs.Tryz
set_option maxRecDepth 100000
set_option maxHeartbeats 4000000
section
open Go.RowKit
def FoldSaysG (G:ST→Int→Prop) (B:SB) (rd:Nat) (cl:Value) (C:World→Prop) (I:ST→Prop) (R:ST→Int→Int→Prop) (cj:Int) (k:Nat):Prop:=
 ∀ (w:World) (S:ST) (D:List (Int×Int)) (f:Int),gQA w B S→WF S→KOK S→I S→C w→cQB eI eI w rd D→DOK R S D→S.ok f→G S f→(S.n:Int) - S.lev f≤k→S.next+fc cj k<lim →
  Calls prog 210 #[.pointer (some ⟨B.b,0,none⟩),.int .i64 f,.map (some rd),cl] w (hQI B rd C I R cj w S f k)
structure FoldEnvG (G:ST→Int→Prop) (B:SB) (rd:Nat) (fid:FuncId) (args:Int→Int→Int→Array Value) (C:World→Prop) (I:ST→Prop) (R:ST→Int→Int→Prop) (cj:Int):Prop where
 sep:rd∉B.own
 keepC:∀ w w',C w→aQA (rd :: B.own) w w'→C w'
 mono:∀ S S' f r,S.ok f→Ext S S'→WF S→WF S'→I S→I S'→R S f r→R S' f r
 cost:0≤cj
 down:∀ S f v l h,WF S→G S f→get S.N f=some (v,l,h)→G S l∧G S h
 up:∀ S S' f,Ext S S'→WF S→WF S'→S.ok f→G S f→G S' f
 join:∀ w S f v l h rl rh,gQA w B S→WF S→KOK S→I S→C w→get S.N f=some (v,l,h)→G S f→R S l rl→R S h rh→S.next+cj<lim →
  Calls prog fid (args v rl rh) w fun e w'=>∃ r S',e=.returned (.int .i64 r)∧gQA w' B S'∧aQA B.own w w'∧Ext S S'∧WF S'∧KOK S'∧I S'∧R S' f r∧S'.next≤S.next+cj
theorem fold_step68G {B:SB} {rd:Nat} {C:World→Prop} {I:ST→Prop} {R:ST→Int→Int→Prop} {G:ST→Int→Prop} {cj:Int} {p q:Nat} (E:FoldEnvG G B rd 211 (fun v rl rh=>#[.int .i64 v,.int .i64 rl,.int .i64 rh,.pointer (some ⟨p,0,none⟩),.pointer (some ⟨q,0,none⟩)]) C I R cj) {k:Nat}
  (ih:Hid (FoldSaysG G B rd (.func (.func 211) #[] #[.pointer (some ⟨p,0,none⟩),.pointer (some ⟨q,0,none⟩)]) C I R cj k)) {w:World} {S:ST} {D:List (Int×Int)} (f v l h:Int) (hS0:gQA w B S) (hw:WF S) (hk:KOK S) (hi:I S) (hC:C w) (hD0:cQB eI eI w rd D) (hd:DOK R S D) (hG:G S f) (hno:get D f=none) (ht:get S.N f=some (v,l,h))
  (hlev:(S.n:Int) - S.lev f≤(k+1:Nat)) (hlim:S.next+fc cj (k+1)<lim) :
  Calls prog 210 #[.pointer (some ⟨B.b,0,none⟩),.int .i64 f,.map (some rd),.func (.func 211) #[] #[.pointer (some ⟨p,0,none⟩),.pointer (some ⟨q,0,none⟩)]] w (hQI B rd C I R cj w S f (k+1)):=by
 have hn:=hw.node f v l h ht;have hsep:=E.sep;have hl:=look71' hS0 ht;have hlk:=xQD (P:=prog) underlying146 key3 (z:=.int .i64 0) zero3 hD0 f true;simp only [hno,Option.map_none,Option.getD_none,eI,Option.isSome_none,if_true] at hlk;have c2:=hS0.head.cell 2;simp at c2;have Hlim:=hide hlim;have Hlev:=hide hlev;have Ht:=hide ht;have Hn:=hide hn;have Hg:=hide (E.down _ _ _ _ _ hw hG ht);have HG:=hide hG;clear hlim hlev ht hn hno hG;go_enter func210,ntmps210
 go_wp2
 have hN:=cQA.new w #[.int .i64 v,.int .i64 l,.int .i64 h] 228;have hS:=hS0.alloc (.cells #[.int .i64 v,.int .i64 l,.int .i64 h] 228);have hK:=aQA.alloc (rd :: B.own) w (.cells #[.int .i64 v,.int .i64 l,.int .i64 h] 228);have hD:cQB eI eI _ rd D:=hD0.of_heap (Go.RowKit.Below.heap_alloc w (.cells #[.int .i64 v,.int .i64 l,.int .i64 h] 228) rd hD0.lt);have hC1:=E.keepC _ _ hC hK;have hne:w.heap.size∉rd :: B.own:=fun x=>by
  rcases List.mem_cons.1 x with e | x
  ·exact absurd hD0.lt (by rw [e];omega)
  ·exact Nat.lt_irrefl _ (hS0.lt _ x)
 clear hl hlk c2;generalize w.alloc (.cells #[.int .i64 v,.int .i64 l,.int .i64 h] 228)=W at hN hS hK hD hC1 ⊢;generalize w.heap.size=z at hN hne ⊢;have hC2:C W.drew:=E.keepC _ _ hC1 (aQA.drew _ _);have hD2:cQB eI eI W.drew rd D:=hD.of_heap rfl;have hN2:cQA W.drew z _:=hN.of_heap rfl;have hK2:=hK.trans (aQA.drew (rd :: B.own) W);have hS2:=hS.drew;have g0:=fQH hN;go_region_held3 (fun w'=>w'.cell? ⟨z,0,none⟩=some (.int .i64 v)∧w'.cell? ⟨z,1,none⟩=some (.int .i64 l)∧w'.cell? ⟨z,2,none⟩=some (.int .i64 h)) (first | exact fQH hN2 | exact fQH hN3 | exact fQH hN4 | exact fQH hN5)
  (first
   | (go_at_call_of 210 (Value.int IntKind.i64 l)
      refine (ih.out W.drew S D l hS2 hw hk hi hC2 hD2 hd Hn.out.2.2.2.2.2.1 Hg.out.1 ?_ ?_).mono ?_
      ·have:=Hlev.out;have:=Hn.out.2.2.2.2.2.2.2.1;rw [pQB hw Ht.out] at *;dsimp only at *;omega
      ·have:=Hlim.out;simp only [fc] at this;have:=zQJ E.cost k;have:=E.cost;omega
      rintro e W3 ⟨r0,S1,D1,rfl,hS3,hD3,k3,hC3,p0⟩;have hN3:=hN2.keeps k3 hne;have hK3:=hK2.trans k3)
   | (go_at_call_of 210 (Value.int IntKind.i64 h)
      refine (ih.out W3 S1 D1 h hS3 p0.wf p0.known p0.inv hC3 hD3 p0.dok (p0.ext.ok Hn.out.2.2.2.2.2.2.1) (E.up _ _ _ p0.ext hw p0.wf Hn.out.2.2.2.2.2.2.1 Hg.out.2) ?_ ?_).mono ?_
      ·rw [p0.ext.lev Hn.out.2.2.2.2.2.2.1,p0.ext.n];have:=Hlev.out;have:=Hn.out.2.2.2.2.2.2.2.2;rw [pQB hw Ht.out] at *;dsimp only at *;omega
      ·have:=Hlim.out;simp only [fc] at this;have:=p0.next;have:=E.cost;omega
      rintro e W4 ⟨r1,S2,D2,rfl,hS4,hD4,k4,hC4,p1⟩;have hN4:=hN3.keeps k4 hne;have hK4:=hK3.trans k4)
   | (go_at_call 211
      refine (E.join W4 S2 f v l h r0 r1 hS4 p1.wf p1.known p1.inv hC4 (p1.ext.node _ _ (p0.ext.node _ _ Ht.out)) (E.up _ _ _ (p0.ext.trans p1.ext) hw p1.wf (.inr (.inr ⟨Hn.out.1,_,Ht.out⟩)) HG.out) (E.mono _ _ _ _ (p0.ext.ok Hn.out.2.2.2.2.2.1) p1.ext p0.wf p1.wf p0.inv p1.inv p0.rel) p1.rel ?_).mono ?_
      ·have:=Hlim.out;simp only [fc] at this;have:=p0.next;have:=p1.next;omega
      rintro e W5 ⟨r,S3,rfl,hS5,k5,x5,w5,kk5,i5,rel5,n5⟩;have k5':aQA (rd :: B.own) W4 W5:=k5.mono (fun i hi=>List.mem_cons_of_mem _ hi);have hN5:=hN4.keeps k5' hne;have hK5:=hK4.trans k5';have hC5:=E.keepC _ _ hC4 k5';have hD5:cQB eI eI W5 rd D2:=hD4.of_heap (k5.block rd hD4.lt hsep)))
 all_goals
  obtain ⟨o,hrun,hmm⟩:=wQG (P:=prog) underlying146 key3 hD5 f r;simp only [eI] at hrun;go_wp2
  go_ret
  refine ⟨r,S3,put D2 f r,rfl,hS5.of_heap (fun i hi=>iQB o (fun e=>hsep (e ▸ hi))),hmm,hK5.trans ((aQA.blk _ _ _).mono (by simp)),E.keepC _ _ hC5 ((aQA.blk _ _ _).mono (by simp)),?_⟩;exact vQI E.mono hw Ht.out p0 p1 x5 w5 kk5 i5 rel5 n5
theorem fold_says211G {B:SB} {rd:Nat} {C:World→Prop} {I:ST→Prop} {R:ST→Int→Int→Prop} {G:ST→Int→Prop} {cj:Int} {p q:Nat} (E:FoldEnvG G B rd 211 (fun v rl rh=>#[.int .i64 v,.int .i64 rl,.int .i64 rh,.pointer (some ⟨p,0,none⟩),.pointer (some ⟨q,0,none⟩)]) C I R cj):∀ k,FoldSaysG G B rd (.func (.func 211) #[] #[.pointer (some ⟨p,0,none⟩),.pointer (some ⟨q,0,none⟩)]) C I R cj k:=by
 intro k;induction k with
 | zero=>
  intro w S D f hS hw hk hi hC hD hd okf hG hl hlim;have fl:¬ 2≤f:=fun x=>by have:=(wQB hw okf).2 x;omega
  have hs:(get D f).isSome=true:=by
   rcases okf with rfl | rfl | ⟨x,_⟩
   ·exact hd.zero
   ·exact hd.one
   ·exact absurd x fl
  obtain ⟨r,hr⟩:=Option.isSome_iff_exists.1 hs;exact cQI E.cost 0 hS hw hk hi hC hD hd hr
 | succ k ih=>
  intro w S D f hS hw hk hi hC hD hd okf hG hl hlim;cases hg:get D f with
  | some r=>exact cQI E.cost _ hS hw hk hi hC hD hd hg
  | none=>
   rcases okf with rfl | rfl | ⟨x,⟨v,l,h⟩,ht⟩
   ·have:=hd.zero;rw [hg] at this;cases this
   ·have:=hd.one;rw [hg] at this;cases this
   ·exact fold_step68G E (hide ih) f v l h hS hw hk hi hC hD hd hG hg ht hl hlim
def Hk (k:Nat) (S:ST) (f:Int):Prop:=∀ v:Int,(k:Int)≤v→v<S.n→∀ σ b,S.den f (upd σ v b)=S.den f σ
theorem Hk.var {k:Nat} {S:ST} {f v l h:Int} (hw:WF S) (hh:Hk k S f) (ht:get S.N f=some (v,l,h)):v<k:=by
 apply Classical.byContradiction;intro hc;obtain ⟨_,_,v0,v1,_⟩:=hw.node f v l h ht;exact hangs hw ht fun σ=>by rw [hh v (by omega) v1,hh v (by omega) v1]
theorem Hk.down {k:Nat} {S:ST} {f v l h:Int} (hw:WF S) (hh:Hk k S f) (ht:get S.N f=some (v,l,h)):Hk k S l∧Hk k S h:=by
 have hv:=hh.var hw ht;obtain ⟨_,_,v0,v1,_,okl,okh,pl,ph⟩:=hw.node f v l h ht;constructor
 ·intro u u0 u1 σ b;have h1:=hh u u0 u1 (upd σ v false) b;rw [mQB hw ht,mQB hw ht,upd_ne _ _ (by omega:v≠u),upd_same,upd_comm _ (by omega:v≠u)] at h1;simp only [Bool.false_eq_true,if_false] at h1;rwa [bQB hw okl v0 v1 pl,bQB hw okl v0 v1 pl] at h1
 ·intro u u0 u1 σ b;have h1:=hh u u0 u1 (upd σ v true) b;rw [mQB hw ht,mQB hw ht,upd_ne _ _ (by omega:v≠u),upd_same,upd_comm _ (by omega:v≠u)] at h1;simp only [if_true] at h1;rwa [bQB hw okh v0 v1 ph,bQB hw okh v0 v1 ph] at h1
theorem Hk.ext {k:Nat} {S S':ST} {f:Int} (x:Ext S S') (hw:WF S) (hw':WF S') (okf:S.ok f) (hh:Hk k S f):Hk k S' f:=fun v v0 v1 σ b=>by
 rw [x.den hw hw' okf,x.den hw hw' okf];exact hh v v0 (by rw [←x.n];exact v1) σ b
def SbC (B:SB) (p q bt ct:Nat) (bys:List Int) (w:World):Prop:=cQA w p #[.pointer (some ⟨B.b,0,none⟩)]∧cQA w q #[.slice (some ⟨bt,0,none⟩) bys.length ct]∧lQB w bt bys
theorem sb_cells {B:SB} {p q bt ct:Nat} {bys:List Int} {w:World} (h:SbC B p q bt ct bys w) {i:Nat} {u:Int} (hu:bys[i]?=some u) :
  w.cell? ⟨p,0,none⟩=some (.pointer (some ⟨B.b,0,none⟩))∧w.cell? ⟨q,0,none⟩=some (.slice (some ⟨bt,0,none⟩) bys.length ct)∧w.cell? ⟨bt,i,none⟩=some (.int .i64 u):=
 ⟨h.1.cell 0,h.2.1.cell 0,h.2.2.cell hu⟩
def sbV (S:ST) (bys:List Int) (σ:Int→Bool):Int→Bool:=fun v=>S.den ((bys[v.toNat]?).getD 0) σ
def SbR (bys:List Int) (S:ST) (f r:Int):Prop:=S.ok r∧∀ σ:Int→Bool,S.den r σ=S.den f (sbV S bys σ)
theorem sbV_ext {S S':ST} {bys:List Int} (x:Ext S S') (hw:WF S) (hw':WF S') (hb:∀ b∈bys,S.ok b) (σ:Int→Bool):sbV S' bys σ=sbV S bys σ:=by
 funext v
 unfold sbV;cases hv:bys[v.toNat]? with
 | none=>simp only [Option.getD_none,eQB]
 | some b=>simp only [Option.getD_some];exact x.den hw hw' (hb b (List.mem_of_getElem? hv)) σ
theorem sbg_join {B:SB} {w:World} {S:ST} {p q bt ct:Nat} {bys:List Int} (f v l h rl rh y:Int) (hS:gQA w B S) (hw:WF S) (hk:KOK S) (hC:SbC B p q bt ct bys w) (hp:p∉B.own) (hq:q∉B.own) (hbt:bt∉B.own)
  (hby:∀ b∈bys,S.ok b) (hy:bys[v.toNat]?=some y) (ht:get S.N f=some (v,l,h)) (al:SbR bys S l rl) (ah:SbR bys S h rh) (hlim:S.next+cst S.n<lim) :
  Calls prog 211 #[.int .i64 v,.int .i64 rl,.int .i64 rh,.pointer (some ⟨p,0,none⟩),.pointer (some ⟨q,0,none⟩)] w fun e w'=>∃ r S',e=.returned (.int .i64 r)∧gQA w' B S'∧aQA B.own w w'∧Ext S S'∧WF S'∧KOK S'∧SbR bys S' f r∧S'.next≤S.next+cst S.n:=by
 obtain ⟨x1,x2,v0,v1,x5,okl,okh,pll,plh⟩:=hw.node f v l h ht;have hvl:v<bys.length:=by have:=(List.getElem?_eq_some_iff.1 hy).1;omega
 have okf:S.ok f:=.inr (.inr ⟨x1,_,ht⟩);have hyy:=hby y (List.mem_of_getElem? hy);have hc:=hide (fun (w:World) (h:gQA w B S)=>aQI y rh rl h hw hk hyy ah.1 al.1 hlim);have Ht:=hide ht;have Hlim:=hide hlim;have Hy:=hide hy;have g0:=sb_cells hC hy;have hC2:SbC B p q bt ct bys w.drew:=⟨hC.1.of_heap rfl,hC.2.1.of_heap rfl,hC.2.2.of_heap rfl⟩;have hS2:=hS.drew;clear ht hlim x1 x2 x5 pll plh hy hyy;go_enter func211,ntmps211
 go_wp2
 go_region_held3 (fun w'=>w'.cell? ⟨p,0,none⟩=some (.pointer (some ⟨B.b,0,none⟩))∧w'.cell? ⟨q,0,none⟩=some (.slice (some ⟨bt,0,none⟩) bys.length ct)∧w'.cell? ⟨bt,v.toNat,none⟩=some (.int .i64 y)) (first | exact sb_cells hC2 Hy.out | exact sb_cells hC3 Hy.out)
  (first
   | (go_at_call 141
      refine (hc.out _ hS2).mono ?_;rintro e W3 ⟨r,S2,rfl,hS4,k4,p2⟩;have hC3:SbC B p q bt ct bys W3:=⟨hC2.1.keeps k4 hp,hC2.2.1.keeps k4 hq,hC2.2.2.of_heap (k4.block _ hC2.2.2.lt hbt)⟩))
 all_goals
  go_wp2
  go_ret
  refine ⟨r,S2,rfl,hS4,(aQA.drew _ _).trans k4,p2.ext,p2.wf,p2.known,⟨p2.ok,fun σ=>?_⟩,p2.next⟩;rw [p2.den,ah.2,al.2,p2.ext.den hw p2.wf okf,sbV_ext p2.ext hw p2.wf hby,mQB hw Ht.out];simp only [sbV,Hy.out,Option.getD_some]
theorem sbg_env (B:SB) (rd p q bt ct n k:Nat) (bys:List Int) (hr:rd∉B.own) (hp:p∉rd :: B.own) (hq:q∉rd :: B.own) (hb:bt∉rd :: B.own) (hlen:k≤bys.length) :
  FoldEnvG (Hk k) B rd 211 (fun v rl rh=>#[.int .i64 v,.int .i64 rl,.int .i64 rh,.pointer (some ⟨p,0,none⟩),.pointer (some ⟨q,0,none⟩)]) (SbC B p q bt ct bys) (fun S=>S.n=n∧∀ b∈bys,S.ok b) (SbR bys) (cst n) where
 sep:=hr
 keepC w w' h k:=⟨h.1.keeps k hp,h.2.1.keeps k hq,h.2.2.of_heap (k.block _ h.2.2.lt hb)⟩
 mono S S' f r okf x hw hw' hi _ h:=⟨x.ok h.1,fun σ=>by rw [x.den hw hw' h.1,h.2,x.den hw hw' okf,sbV_ext x hw hw' hi.2]⟩
 cost:=tQD n
 down S f v l h hw hg ht:=hg.down hw ht
 up S S' f x hw hw' okf hg:=hg.ext x hw hw' okf
 join w S f v l h rl rh hS hw hk hi hC ht hG al ah hlim:=by
  obtain ⟨hi,hby⟩:=hi;subst hi;obtain ⟨x1,x2,v0,v1,_⟩:=hw.node f v l h ht;have hv:=hG.var hw ht;have hl2:v.toNat<bys.length:=by omega
  exact (sbg_join f v l h rl rh _ hS hw hk hC (fun x=>hp (List.mem_cons_of_mem _ x)) (fun x=>hq (List.mem_cons_of_mem _ x)) (fun x=>hb (List.mem_cons_of_mem _ x)) hby (List.getElem?_eq_getElem hl2) ht al ah hlim).mono fun e w' ⟨r,S',a1,a2,a3,a4,a5,a6,a7,a8⟩=>⟨r,S',a1,a2,a3,a4,a5,a6,⟨a4.n,fun b hb=>a4.ok (hby b hb)⟩,a7,a8⟩
attribute [local go_sem] ins_first ins_second
theorem substG_calls {B:SB} {w:World} {S:ST} (f:Int) (bt ct:Nat) (k:Nat) (bys:List Int) (hS:gQA w B S) (hw:WF S) (hk:KOK S) (okf:S.ok f) (hrow:lQB w bt bys) (hbt:bt∉B.own) (hlen:k≤bys.length) (hby:∀ b∈bys,S.ok b) (hG:Hk k S f) (hlim:S.next+fc (cst S.n) S.n<lim) :
  Calls prog 146 #[.pointer (some ⟨B.b,0,none⟩),.int .i64 f,.slice (some ⟨bt,0,none⟩) bys.length ct] w (RelGives B w S (SbR bys) f (fc (cst S.n) S.n)):=by
 have hmm:=@run_makeMap prog;have hbl:=hrow.lt;have E:=sbg_env B (w.heap.size+1+1) w.heap.size (w.heap.size+1) bt ct S.n k bys (hS.fresh (by omega)) (xQA (by omega) (hS.fresh (by omega))) (xQA (by omega) (hS.fresh (by omega))) (xQA (by omega) hbt) hlen;have hc:=hide (fold_says211G E S.n);have Hlim:=hide hlim;have Hlen:=hide hlen;have Hby:=hide hby;have HG:=hide hG;clear hlim E hlen hbl hby hG;go_enter func146,ntmps146
 go_wp2_with fail
 have s1:=size_alloc w (.cells #[.pointer (some ⟨B.b,0,none⟩)] 135);have s2:=size_alloc (w.alloc (.cells #[.pointer (some ⟨B.b,0,none⟩)] 135)) (.cells #[.slice (some ⟨bt,0,none⟩) bys.length ct] 40);have a1:=cQA.new w #[.pointer (some ⟨B.b,0,none⟩)] 135;have a2:=cQA.new (w.alloc (.cells #[.pointer (some ⟨B.b,0,none⟩)] 135)) #[.slice (some ⟨bt,0,none⟩) bys.length ct] 40;have a3:=ins_is ((w.alloc (.cells #[.pointer (some ⟨B.b,0,none⟩)] 135)).alloc (.cells #[.slice (some ⟨bt,0,none⟩) bys.length ct] 40)) 0 0 1 1 (by decide);have k1:=aQA.alloc [] w (.cells #[.pointer (some ⟨B.b,0,none⟩)] 135);have k2:=aQA.alloc [] (w.alloc (.cells #[.pointer (some ⟨B.b,0,none⟩)] 135)) (.cells #[.slice (some ⟨bt,0,none⟩) bys.length ct] 40);have k3:=aQA.alloc [] ((w.alloc (.cells #[.pointer (some ⟨B.b,0,none⟩)] 135)).alloc (.cells #[.slice (some ⟨bt,0,none⟩) bys.length ct] 40)) (.map #[{ key:=.int .i64 0,val:=.int .i64 0,born:=0 },{ key:=.int .i64 1,val:=.int .i64 1,born:=1 }] 2);have b1:=(a1.keeps k2 (by simp)).keeps k3 (by simp);have b2:=a2.keeps k3 (by simp);rw [s1] at b2 s2;rw [s2] at a3;have kk:=(k1.trans k2).trans k3;have hS3:=hS.keeps kk (by simp);have hrow3:=hrow.of_heap (kk.block _ hrow.lt (by simp));refine (hc.out _ S [(0,0),(1,1)] f hS3 hw hk ⟨rfl,Hby.out⟩ ⟨b1,b2,hrow3⟩ a3 ⟨?_,rfl,rfl⟩ okf HG.out ?_ Hlim.out).mono ?_
 ·intro g r hg;have hm:=tQE hg;simp only [List.mem_cons,Prod.mk.injEq,List.not_mem_nil,or_false] at hm;rcases hm with ⟨rfl,rfl⟩ | ⟨rfl,rfl⟩
  ·exact ⟨yQE S,yQE S,fun σ=>by rw [eQB,eQB]⟩
  ·exact ⟨qQJ S,qQJ S,fun σ=>by rw [pQC,pQC]⟩
 ·have:=(pQA hw okf).1;omega
 rintro e w' ⟨r,S',D',rfl,hs,hd,hkp,hC',p⟩;go_wp2
 go_ret
 refine ⟨r,S',rfl,hs,(kk.mono (by simp)).trans_new hkp ?_,p.ext,p.wf,p.known,p.rel,p.next⟩;intro i hi;rcases List.mem_cons.1 hi with e | x
 ·exact .inr (by omega)
 ·exact .inl x
end
section
open Go.RowKit
theorem bitN (a v:Nat):bitB (a:Int) (v:Int)=a.testBit v:=by
 unfold bitB;rw [Nat.testBit_eq_decide_div_mod_eq,Int.toNat_natCast];congr 1
 rw [eq_iff_iff];constructor
 ·intro h;have:((a / 2 ^ v % 2:Nat):Int)=1:=by push_cast;exact h
  omega
 ·intro h;have:((a / 2 ^ v % 2:Nat):Int)=1:=by omega
  push_cast at this;exact this
def asgs:Nat→Nat→List Nat
 | 0,_=>[0]
 | k+1,i=>asgs k (i+1)++(asgs k (i+1)).map fun y=>y+2 ^ i
def ST.tl (S:ST):Nat→Nat→Int→Nat→List Nat
 | 0,_,f,a=>if f=0 then [] else [a]
 | k+1,i,f,a=>if f=0 then [] else S.tl k (i+1) (S.cof f i).1 a++S.tl k (i+1) (S.cof f i).2 (a+2 ^ i)
theorem rQK:∀ {k i y:Nat},y∈asgs k i→∃ z,z<2 ^ k∧y=z * 2 ^ i
 | 0,i,y,h=>⟨0,by simp,by simpa [asgs] using h⟩
 | k+1,i,y,h=>by
  simp only [asgs,List.mem_append,List.mem_map] at h;rcases h with h | ⟨x,h,rfl⟩
  ·obtain ⟨z,hz,rfl⟩:=rQK h;exact ⟨2 * z,by rw [Nat.pow_succ];omega,by rw [Nat.pow_succ,Nat.mul_comm (2 ^ i) 2,←Nat.mul_assoc,Nat.mul_comm z 2]⟩
  ·obtain ⟨z,hz,rfl⟩:=rQK h;exact ⟨2 * z+1,by rw [Nat.pow_succ];omega,by rw [Nat.pow_succ,Nat.mul_comm (2 ^ i) 2,←Nat.mul_assoc,Nat.mul_comm z 2,Nat.add_mul,Nat.one_mul]⟩
theorem bit_shift (x q v:Nat) (h:q≤v):(x * 2 ^ q).testBit v=x.testBit (v - q):=by
 rw [Nat.testBit_mul_two_pow];simp [h]
theorem bit_over (z d q n v:Nat) (hd:d<2 ^ n):(z * 2 ^ (q+n)+d * 2 ^ q).testBit v=if v<q then false else if v<q+n then d.testBit (v - q) else (z * 2 ^ (q+n)).testBit v:=by
 have e:z * 2 ^ (q+n)+d * 2 ^ q=(2 ^ n * z+d) * 2 ^ q:=by rw [Nat.pow_add,Nat.add_mul];congr 1;rw [Nat.mul_comm (2 ^ q),←Nat.mul_assoc,Nat.mul_comm z]
 by_cases h:v<q
 ·rw [if_pos h,e,Nat.testBit_mul_two_pow];simp;omega
 ·rw [if_neg h,e,bit_shift _ _ _ (by omega),Nat.testBit_two_pow_mul_add _ hd];by_cases h2:v<q+n
  ·rw [if_pos h2,if_pos (by omega)]
  ·rw [if_neg h2,if_neg (by omega),bit_shift _ _ _ (by omega)];congr 1;omega
def Idn (S:ST):Prop:=∀ v:Int,0≤v→v<S.n→S.pl v=v
theorem Hk.cof {k:Nat} {S:ST} {f:Int} (hw:WF S) (hh:Hk k S f) (u:Int):Hk k S (S.cof f u).1∧Hk k S (S.cof f u).2:=by
 unfold ST.cof;split
 ·rename_i t ht;obtain ⟨v,l,h⟩:=t;split
  ·exact hh.down hw ht
  ·exact ⟨hh,hh⟩
 ·exact ⟨hh,hh⟩
theorem tl_spec {S:ST} (hw:WF S) (hid:Idn S):∀ (k i:Nat) (f:Int) (a:Nat),S.ok f→(i:Int)≤S.lev f→Hk (i+k) S f→i+k≤S.n→S.tl k i f a=((asgs k i).filter fun y=>S.den f (asg (y:Nat))).map fun y=>a+y
 | 0,i,f,a,hf,hl,hh,hn=>by
  have hc:f=0∨f=1:=by
   rcases hf with h | h | ⟨h2,⟨v,l,h⟩,ht⟩
   ·exact .inl h
   ·exact .inr h
   ·exfalso;have hv:=hh.var hw ht;obtain ⟨_,_,v0,v1,_⟩:=hw.node f v l h ht;rw [pQB hw ht] at hl;have:=hid v v0 v1;simp only at hl;omega
  rcases hc with rfl | rfl
  ·simp [ST.tl,asgs,eQB]
  ·simp [ST.tl,asgs,pQC]
 | k+1,i,f,a,hf,hl,hh,hn=>by
  have hi:(i:Int)<S.n:=by omega
  have hpi:=hid i (by omega) hi;obtain ⟨ok0,ok1,l0,l1,_,_,hden⟩:=cof_spec hw hf (u:=i) (by omega) hi (by rw [hpi];exact hl);rw [hpi] at l0 l1;obtain ⟨h0,h1⟩:=hh.cof hw (i:Int);have e0:=tl_spec hw hid k (i+1) (S.cof f i).1 a ok0 (by push_cast;omega) (by rw [show i+1+k=i+(k+1) from by omega];exact h0) (by omega);have e1:=tl_spec hw hid k (i+1) (S.cof f i).2 (a+2 ^ i) ok1 (by push_cast;omega) (by rw [show i+1+k=i+(k+1) from by omega];exact h1) (by omega);by_cases hf0:f=0
  ·subst hf0;simp [ST.tl,eQB]
  ·simp only [ST.tl,hf0,if_false];rw [e0,e1];simp only [asgs,List.filter_append,List.map_append,List.filter_map,List.map_map];congr 1
   ·congr 1
    refine List.filter_congr fun y hy=>?_;obtain ⟨z,_,rfl⟩:=rQK hy;have hb:asg ((z * 2 ^ (i+1):Nat):Int) (i:Int)=false:=by
     show bitB _ _=_;rw [bitN,Nat.testBit_mul_two_pow];simp;omega
    rw [hden,hb];rfl
   ·have e:(fun y=>a+2 ^ i+y)=(fun y=>a+y) ∘ fun y=>y+2 ^ i:=by funext y;simp;omega
    rw [e];congr 1
    refine List.filter_congr fun y hy=>?_;obtain ⟨z,_,rfl⟩:=rQK hy;have hv:∀ v:Nat,bitB ((z * 2 ^ (i+1)+2 ^ i:Nat):Int) (v:Int)=if v<i then false else if v<i+1 then (1:Nat).testBit (v - i) else (z * 2 ^ (i+1)).testBit v:=fun v=>by
     have:=bit_over z 1 i 1 v (by decide);rw [Nat.one_mul] at this;rw [bitN,this]
    simp only [Function.comp_apply];have hb:asg ((z * 2 ^ (i+1)+2 ^ i:Nat):Int) (i:Int)=true:=by
     show bitB _ _=_;rw [hv];simp
    rw [hden,hb,if_pos rfl];refine den_congr hw ok1 _ _ fun v v0 v1 hlv=>?_;obtain ⟨j,rfl⟩:=Int.eq_ofNat_of_zero_le v0;rw [hid _ v0 v1] at hlv;show bitB _ _=bitB _ _;rw [hv,bitN,if_neg (by omega),if_neg (by omega)]
def numA (σ:Int→Bool) (p:Nat):Nat:=4 * (σ (3 * p:Nat)).toNat+2 * (σ (3 * p+1:Nat)).toNat+(σ (3 * p+2:Nat)).toNat
def tupF (σ:Int→Bool):Nat→Nat→List Nat
 | _,0=>[]
 | p,c+1=>numA σ p :: tupF σ (p+1) c
def alls:Nat→List (List Nat)
 | 0=>[[]]
 | c+1=>(List.range 8).flatMap fun d=>(alls c).map (d :: ·)
theorem kQK {σ τ:Int→Bool}:∀ (c p:Nat),(∀ v:Nat,3 * p≤v→v<3 * (p+c)→σ v=τ v)→tupF σ p c=tupF τ p c
 | 0,_,_=>rfl
 | c+1,p,h=>by
  simp only [tupF,numA];rw [h (3 * p) (by omega) (by omega),h (3 * p+1) (by omega) (by omega),h (3 * p+2) (by omega) (by omega),kQK c (p+1) fun v h1 h2=>h v (by omega) (by omega)]
theorem asgs_tups:∀ (c p:Nat),(asgs (3 * c) (3 * p)).map (fun y=>tupF (asg (y:Nat)) p c)=alls c
 | 0,p=>by simp [asgs,tupF,alls]
 | c+1,p=>by
  have ih:=asgs_tups c (p+1);have e:3 * (c+1)=3 * c+1+1+1:=by omega
  have e3:3 * p+1+1+1=3 * (p+1):=by omega
  have key:∀ (d r:Nat),r<8→d=4 * (r.testBit 0).toNat+2 * (r.testBit 1).toNat+(r.testBit 2).toNat→∀ (g:Nat→Nat),(∀ y,g y=y+r * 2 ^ (3 * p))→(asgs (3 * c) (3 * (p+1))).map ((fun y=>tupF (asg (y:Nat)) p (c+1)) ∘ g)=(alls c).map (d :: ·):=by
   intro d r hr hd g hg;rw [←ih,List.map_map];refine List.map_congr_left fun y hy=>?_;obtain ⟨z,_,rfl⟩:=rQK hy;have hv:∀ v:Nat,asg ((g (z * 2 ^ (3 * (p+1))):Nat):Int) (v:Int)=if v<3 * p then false else if v<3 * p+3 then r.testBit (v - 3 * p) else asg ((z * 2 ^ (3 * (p+1)):Nat):Int) (v:Int):=fun v=>by
    show bitB _ _=if _ then _ else if _ then _ else bitB _ _;rw [bitN,bitN,hg,show 3 * (p+1)=3 * p+3 from by omega];exact bit_over z r (3 * p) 3 v (by omega)
   simp only [Function.comp_apply,tupF];congr 1
   ·unfold numA;rw [hv,hv,hv,hd];simp [show ¬ 3 * p+1<3 * p by omega,show ¬ 3 * p+2<3 * p by omega,show 3 * p+1 - 3 * p=1 by omega,show 3 * p+2 - 3 * p=2 by omega]
   ·refine kQK c (p+1) fun v h1 h2=>?_;rw [hv,if_neg (by omega),if_neg (by omega)]
  rw [e];simp only [asgs,e3,List.map_append,List.map_map,List.append_assoc];have hp1:2 ^ (3 * p+1)=2 * 2 ^ (3 * p):=by rw [Nat.pow_succ,Nat.mul_comm]
  have hp2:2 ^ (3 * p+1+1)=4 * 2 ^ (3 * p):=by rw [Nat.pow_succ,Nat.pow_succ];omega
  have hL:alls (c+1)=(alls c).map (0 :: ·)++((alls c).map (1 :: ·)++((alls c).map (2 :: ·)++((alls c).map (3 :: ·)++((alls c).map (4 :: ·)++((alls c).map (5 :: ·)++((alls c).map (6 :: ·)++(alls c).map (7 :: ·))))))):=by
   simp [alls,List.range_succ]
  rw [hL];have k0:=key 0 0 (by omega) (by decide) id (fun y=>by simp);rw [Function.comp_id] at k0;rw [k0];have K:=fun (d r:Nat) (h1:r<8) (h2) (g:Nat→Nat) (hg)=>key d r h1 h2 g hg;congr 1
  rw [K 1 4 (by omega) (by decide) _ (fun y=>by rw [hp2])];congr 1
  rw [K 2 2 (by omega) (by decide) _ (fun y=>by rw [hp1])];congr 1
  rw [show ((fun y=>tupF (asg ((y:Nat):Int)) p (c+1)) ∘ (fun y=>y+2 ^ (3 * p+1)) ∘ fun y=>y+2 ^ (3 * p+1+1))=(fun y=>tupF (asg ((y:Nat):Int)) p (c+1)) ∘ fun y=>y+6 * 2 ^ (3 * p) from by funext y;simp only [Function.comp_apply];rw [hp1,hp2];congr 3;omega];rw [K 3 6 (by omega) (by decide) _ (fun y=>rfl)];congr 1
  rw [K 4 1 (by omega) (by decide) _ (fun y=>by omega)];congr 1
  rw [show ((fun y=>tupF (asg ((y:Nat):Int)) p (c+1)) ∘ (fun y=>y+2 ^ (3 * p)) ∘ fun y=>y+2 ^ (3 * p+1+1))=(fun y=>tupF (asg ((y:Nat):Int)) p (c+1)) ∘ fun y=>y+5 * 2 ^ (3 * p) from by funext y;simp only [Function.comp_apply];rw [hp2];congr 3;omega];rw [K 5 5 (by omega) (by decide) _ (fun y=>rfl)];congr 1
  rw [show ((fun y=>tupF (asg ((y:Nat):Int)) p (c+1)) ∘ (fun y=>y+2 ^ (3 * p)) ∘ fun y=>y+2 ^ (3 * p+1))=(fun y=>tupF (asg ((y:Nat):Int)) p (c+1)) ∘ fun y=>y+3 * 2 ^ (3 * p) from by funext y;simp only [Function.comp_apply];rw [hp1];congr 3;omega];rw [K 6 3 (by omega) (by decide) _ (fun y=>rfl)];congr 1
  rw [show ((fun y=>tupF (asg ((y:Nat):Int)) p (c+1)) ∘ (fun y=>y+2 ^ (3 * p)) ∘ (fun y=>y+2 ^ (3 * p+1)) ∘ fun y=>y+2 ^ (3 * p+1+1))=(fun y=>tupF (asg ((y:Nat):Int)) p (c+1)) ∘ fun y=>y+7 * 2 ^ (3 * p) from by funext y;simp only [Function.comp_apply];rw [hp1,hp2];congr 3;omega];rw [K 7 7 (by omega) (by decide) _ (fun y=>rfl)]
end
section
open Go.RowKit Go.Shelf
attribute [local go_sem] Oper.semAt_some
theorem gQJ {m m':Nat} {l:Nat} {args:Array Value} {W:World} {R:Ending→World→Prop} (h:YieldAt Fence.wide m prog l args W R):YieldAt Fence.wide m' prog l args W R:=
 let ⟨fn,tmps,assign,body,h1,h2,h3⟩:=h
 ⟨fn,tmps,assign,body,h1,h2,fun c cs _=>h3 c cs (room_wide _)⟩
theorem or_pow {a i:Nat} (h:a<2 ^ i) (hi:i<12):bits BinOp.or IntKind.i64 (a:Int) ((2 ^ i:Nat):Int)=((a+2 ^ i:Nat):Int):=by
 have hp:2 ^ i<2 ^ 12:=Nat.pow_lt_pow_right (by decide) hi;have e2:=(bits_nat .i64 62 (by decide) (fun n a b=>by rw [IntKind.wrap_i64];omega) a (2 ^ i) (by omega) (by omega)).2;rw [e2];have:=Nat.two_pow_add_eq_or_of_lt h 1;rw [Nat.mul_one] at this;rw [Nat.or_comm,←this,Nat.add_comm]
def eA (x:Nat):Array Value:=#[.int .i64 (x:Int)]
theorem tell_zero (W:World) (p v y:Value) (a:Int):Calls prog 154 #[p,.int .i64 0,.int .i64 a,v,y] W fun e W'=>e=.returned (.bool true)∧W' = W:=by
 go_enter func154,ntmps154
 go_wp2
 go_ret
 exact ⟨rfl,rfl⟩
theorem tell_end (n:Nat) (W:World) (p:Value) (f:Int) (hf:(f == 0)=false) (a l c:Nat) (s:Option Addr) {R:Ending→World→Prop} (hY:∀ m,YieldAt Fence.wide m prog l (eA a) W fun e W'=>∃ b,e=.returned (.bool b)∧R e W') :
  CallsIn Fence.wide n prog 154 #[p,.int .i64 f,.int .i64 (a:Int),.slice s 0 c,.func (.yield l) #[] #[]] W R:=by
 refine callsIn_of_wp func154 rfl trivial ?_ rfl;simp only [ntmps154,List.size_toArray,List.length_cons,List.length_nil,Nat.reduceAdd,Nat.reduceSub,Array.replicate_succ,Array.replicate_zero,List.push_toArray,List.append_toArray,List.nil_append,List.cons_append];obtain ⟨fn,tmps,assign,body,hy,hR⟩:=hY (n - 1);simp only [eA] at hy;gi_wp2_with fail
 refine ⟨fun h=>(nomatch h),?_⟩;refine hR.mono ?_;rintro e W3 ⟨b,rfl,hr⟩;gi_wp2_with fail
 exact hr
def TellSays (B:SB) (S:ST) (l:Nat) (J:List Nat→World→Prop) (T L:List Nat) (z k:Nat):Prop:=
 ∀ (i:Nat) (f:Int) (a c:Nat) (pre:List Nat) (W:World),i+k≤S.n→S.n≤12→k+3≤c→a<2 ^ i→S.ok f→(i:Int)≤S.lev f→(pre++S.tl k i f a) <+: L→gQA W B S→z≤W.heap.size→J pre W →
  Calls prog 154 #[.pointer (some ⟨B.b,0,none⟩),.int .i64 f,.int .i64 (a:Int),.slice (some ⟨B.bo,i,none⟩) k c,.func (.yield l) #[] #[]] W fun e W'=>e=.returned (.bool true)∧J (pre++S.tl k i f a) W'∧aQA (l :: T) W W'
theorem pow_i {i:Nat} (hi:i<12):IntKind.i64.wrap (2 ^ i)=((2 ^ i:Nat):Int):=by
 have hp:2 ^ i<2 ^ 12:=Nat.pow_lt_pow_right (by decide) hi;have e:((2 ^ i:Nat):Int)=(2:Int) ^ i:=by push_cast;rfl
 rw [←e];generalize 2 ^ i=m at hp ⊢;rw [IntKind.wrap_i64];omega
theorem run_tail (b i k c:Nat) (hc:c≠1) (w:World):(Instr.slice 40 (.slice (some ⟨b,i,none⟩) (k+1) c) (some (.int .i64 1)) none none).run prog w=.ok (.slice (some ⟨b,i+1,none⟩) k (c - 1)) w:=by
 rw [run_slice_l (P:=prog) w 40 _ _ _ (by kernel_rfl) .i64 1 (by omega) (by push_cast;omega)];simp [go_sem,sliced,hc,Addr.add]
theorem pow_a {a i:Nat} (h:a<2 ^ i):a<2 ^ (i+1)∧a+2 ^ i<2 ^ (i+1):=by
 rw [Nat.pow_succ];generalize 2 ^ i=q at *;omega
theorem tell_step {B:SB} {S:ST} (hw:WF S) (hid:Idn S) (ho:∀ i:Nat,i<S.n→S.order[i]?=some (i:Int)) {l:Nat} {J:List Nat→World→Prop} {T L:List Nat} {z:Nat} (hJ:Hid (∀ pre W1 W2,J pre W1→Go.RowKit.Below z W1 W2→J pre W2)) (hT:∀ i∈B.own,i∉l :: T) {k:Nat} (ih:Hid (TellSays B S l J T L z k))
  (i:Nat) (f:Int) (a c:Nat) (pre:List Nat) (W:World) (hn:i+(k+1)≤S.n) (n12:S.n≤12) (hc:k+1+3≤c) (ha:a<2 ^ i) (hf:S.ok f) (hf0:(f == 0)=false) (hl:(i:Int)≤S.lev f) (hpre:Hid ((pre++(S.tl k (i+1) (S.cof f i).1 a++S.tl k (i+1) (S.cof f i).2 (a+2 ^ i))) <+: L)) (hS:gQA W B S) (hz:z≤W.heap.size) (h0:J pre W) :
  Calls prog 154 #[.pointer (some ⟨B.b,0,none⟩),.int .i64 f,.int .i64 (a:Int),.slice (some ⟨B.bo,i,none⟩) (k+1) c,.func (.yield l) #[] #[]] W fun e W'=>e=.returned (.bool true)∧J (pre++(S.tl k (i+1) (S.cof f i).1 a++S.tl k (i+1) (S.cof f i).2 (a+2 ^ i))) W'∧aQA (l :: T) W W':=by
 have hi12:i<12:=by omega
 have hi:(i:Int)<S.n:=by omega
 have hpi:=hid i (by omega) hi;obtain ⟨ok0,ok1,l0,l1,_,_,_⟩:=cof_spec hw hf (u:=i) (by omega) hi (by rw [hpi];exact hl);rw [hpi] at l0 l1;have hc0:=hS.order.cell (ho i (by omega));have hsp:=hide (kQL hS hw f i hf);have hor:=or_pow ha hi12;have hpw:=pow_i hi12;have Ha:=hide (pow_a ha);clear ha;generalize hA:2 ^ i=A at hor hpw Ha hpre ⊢;generalize a+A=a2 at hor Ha hpre ⊢;generalize hf0':(S.cof f i).1=f0 at *;generalize hf1':(S.cof f i).2=f1 at *;go_enter func154,ntmps154
 go_wp2_with fail
 refine hsp.out.mono ?_;rintro e W1 ⟨rfl,k1⟩;have hS1:=hS.keeps k1 (by simp);have hS1d:=hS1.keeps (aQA.drew [] W1) (by simp);have hz1:z≤W1.heap.size:=Nat.le_trans hz k1.size;have h1:J pre W1.drew:=hJ.out _ _ _ h0 ((k1.trans (aQA.drew [] W1)).below hz (by simp));have hpre1:Hid ((pre++S.tl k (i+1) f0 a) <+: L):=((List.prefix_append _ _).trans (by rw [List.append_assoc];exact hpre.out));have hc1:=hide (ih.out (i+1) f0 a (c - 1) pre W1.drew (by omega) n12 (by omega) Ha.out.1 ok0 (by push_cast;omega) hpre1.out hS1d hz1 h1);have hc01:=hS1.order.cell (ho i (by omega));have Hnx:=hide (fun (W2:World) (k2:aQA (l :: T) W1.drew W2) (h2:J (pre++S.tl k (i+1) f0 a) W2)=>ih.out (i+1) f1 a2 (c - 1) (pre++S.tl k (i+1) f0 a) W2 (by omega) n12 (by omega) Ha.out.2 ok1 (by push_cast;omega) (by rw [List.append_assoc];exact hpre.out) (hS1d.keeps k2 hT) (Nat.le_trans hz1 k2.size) h2);have hbo:B.bo∉l :: T:=hT _ (by simp [SB.own]);have hcd:=hS1d.order.cell (ho i (by omega));have Hcell:=hide (fun (W2:World) (k2:aQA (l :: T) W1.drew W2)=>(hS1d.order.of_heap (k2.block _ hS1d.order.lt hbo)).cell (ho i (by omega)));clear hsp hpre ih;have hsl:=run_tail B.bo i k c (by omega);go_wp2_with fail
 go_region_held3 (fun w'=>w'.cell? ⟨B.bo,i,none⟩=some (.int .i64 (i:Int))) (first | exact hcd | exact hc2 | exact hc3)
  (first
  | (go_at_call_of 154 (Value.int IntKind.i64 f0)
     refine hc1.out.mono ?_;rintro e W2 ⟨rfl,h2,k2⟩;have hc2:=Hcell.out _ k2)
  | (go_at_call_of 154 (Value.int IntKind.i64 f1)
     refine (Hnx.out _ k2 h2).mono ?_;rintro e W3 ⟨rfl,h3,k3⟩;have hc3:=Hcell.out _ (k2.trans k3)))
 all_goals
  go_wp2_with fail
  go_ret
  exact ⟨rfl,by rw [←List.append_assoc];exact h3,(((k1.trans (aQA.drew [] W1)).mono (by simp)).trans k2).trans k3⟩
theorem tell_says {B:SB} {S:ST} (hw:WF S) (hid:Idn S) (ho:∀ i:Nat,i<S.n→S.order[i]?=some (i:Int)) {l:Nat} {J:List Nat→World→Prop} {T L:List Nat} {z:Nat} (hJ:∀ pre W1 W2,J pre W1→Go.RowKit.Below z W1 W2→J pre W2) (hT:∀ i∈B.own,i∉l :: T)
  (hY:∀ m pre x W1,J pre W1→(pre++[x]) <+: L→YieldAt Fence.wide m prog l (eA x) W1 fun e W'=>e=.returned (.bool true)∧J (pre++[x]) W'∧aQA (l :: T) W1 W'):∀ k,TellSays B S l J T L z k:=by
 intro k;induction k with
 | zero=>
  intro i f a c pre W hn n12 hc ha hf hl hpre hS hz h0;by_cases hf0:f=0
  ·subst hf0;refine (tell_zero W _ _ _ _).mono ?_;rintro e W' ⟨rfl,rfl⟩;exact ⟨rfl,by simpa [ST.tl] using h0,aQA.refl _ _⟩
  ·simp only [ST.tl,hf0,if_false] at hpre ⊢;refine callsIn_wide.1 (tell_end 0 W _ f (by simpa using hf0) a l c _ fun m=>?_);exact (hY m pre a W h0 hpre).mono fun e W' h=>⟨true,h.1,h⟩
 | succ k ih=>
  intro i f a c pre W hn n12 hc ha hf hl hpre hS hz h0;by_cases hf0:f=0
  ·subst hf0;refine (tell_zero W _ _ _ _).mono ?_;rintro e W' ⟨rfl,rfl⟩;exact ⟨rfl,by simpa [ST.tl] using h0,aQA.refl _ _⟩
  ·simp only [ST.tl,hf0,if_false] at hpre ⊢;exact tell_step hw hid ho (hide hJ) hT (hide ih) i f a c pre W hn n12 hc ha hf (by simpa using hf0) hl hpre hS hz h0
theorem gQL (w:World) (p:Addr) (f v:Int) :
  Calls prog 79 #[.pointer (some p),.int .i64 f,.int .i64 v] w fun e w'=>e=.returned (.func (.func 153) #[] #[.pointer (some ⟨w.heap.size,0,none⟩),.pointer (some ⟨w.heap.size+1,0,none⟩),.pointer (some ⟨w.heap.size+1+1,0,none⟩)]) ∧
   w' = ((w.alloc (.cells #[.pointer (some p)] 135)).alloc (.cells #[.int .i64 f] 3)).alloc (.cells #[.int .i64 v] 3):=by
 go_enter func79,ntmps79
 go_wp2
 go_ret
 exact ⟨rfl,rfl⟩
end
section
open Go.RowKit Go.Shelf
attribute [local go_sem] Oper.semAt_some
theorem still_quietV {P:Program} {ops:Array Oper} {W:World} {Q:Act→Prop}:∀ (l:List Oper) (a:Act),wpQuiet P ops (fun w'=>w' = W) Q l a→wpStill P ops W Q l a:=by
 intro l;induction l with
 | nil=>intro a h;exact h
 | cons o rest ih=>
  intro a h;unfold wpQuiet at h;unfold wpStill;split
  ·rename_i hw;rw [if_pos hw] at h;obtain ⟨v,h1,h2⟩:=h;have h3:=h1 W rfl;unfold Oper.quietAt at h3;unfold Oper.still;cases hr:(execOp a.eval o).run P W with
   | ok n w'=>
    rw [hr] at h3;cases n with
    | value u=>
     obtain ⟨e1,e2⟩:=h3;subst e2;exact ⟨e1,ih _ h2⟩
    | skip=>
     obtain ⟨e1,e2⟩:=h3;subst e2;exact ⟨e1,ih _ h2⟩
    | enter f args=>
     obtain ⟨e1,e2⟩:=h3;exact ⟨e1,v,e2,ih _ h2⟩
    | _=>exact h3.elim
   | _=>rw [hr] at h3;exact h3.elim
  ·rename_i hw;rw [if_neg hw] at h;exact ih _ h
theorem vQE {P:Program} {id:Nat} {Q:Exit→Act→World→Prop} {a:Act} {w:World} {l:List Oper} (n:Nat) (hm:P.follows .mixedOrders=true) (hB:Region.lexTailB .any l.toArray n=true)
  (h:wpQuiet P l.toArray (fun w'=>w' = w.drew) (fun a'=>wpList P l.toArray Q (l.drop n) a' w.drew) (l.take n) a):(Code.region id l.toArray true).wp P Q a w:=
 wp_region_still_tail n hm hB (still_quietV _ _ h)
def ST.trues (S:ST) (f:Int) (k:Nat):List Nat:=(asgs k 0).filter fun y=>S.den f (asg (y:Nat))
theorem trues_tl {S:ST} (hw:WF S) (hid:Idn S) {f:Int} {k:Nat} (hf:S.ok f) (hh:Hk k S f) (hk:k≤S.n):S.tl k 0 f 0=S.trues f k:=by
 rw [tl_spec hw hid k 0 f 0 hf (by have:=(pQA hw hf).1;simpa using this) (by rwa [Nat.zero_add]) (by omega)];simp [ST.trues]
theorem run_head (b k c n:Nat) (hc:k≤c) (h0:c≠0) (w:World):(Instr.slice 40 (.slice (some ⟨b,0,none⟩) n c) none (some (.int .i64 (k:Int))) none).run prog w=.ok (.slice (some ⟨b,0,none⟩) k c) w:=by
 rw [run_slice_h (P:=prog) w 40 _ _ _ (by kernel_rfl) .i64 k (by omega) (by omega)];simp [go_sem,sliced,h0,Addr.add]
theorem trues_iter {w:World} {B:SB} {S:ST} (hS0:gQA w B S) (hw:WF S) (hid:Idn S) (ho:∀ i:Nat,i<S.n→S.order[i]?=some (i:Int)) (n12:S.n=12) (hco:12≤B.co) (ps pf pv:Nat) (f:Int) (k:Nat) (hps0:cQA w ps #[.pointer (some ⟨B.b,0,none⟩)]) (hpf0:cQA w pf #[.int .i64 f]) (hpv0:cQA w pv #[.int .i64 (k:Int)])
  (hf:S.ok f) (hh:Hk k S f) (hk:k≤9) (T:List Nat) (hT:∀ t∈T,t<w.heap.size∧t∉B.own) :
  Iter 153 #[.pointer (some ⟨ps,0,none⟩),.pointer (some ⟨pf,0,none⟩),.pointer (some ⟨pv,0,none⟩)] eA (fun pre x=>(pre++[x]) <+: S.trues f k) (fun xs=>xs=S.trues f k) T w:=by
 intro n l J W hl hlW hb hJ hY h0;have hS:=hS0.of_heap (w':=W) (fun i hi=>hb.block i (hS0.lt i hi));have hps:=hps0.of_heap (w':=W) (hb.block ps hps0.lt);have hpf:=hpf0.of_heap (w':=W) (hb.block pf hpf0.lt);have hpv:=hpv0.of_heap (w':=W) (hb.block pv hpv0.lt);have q0:=hps.cell 0;have q1:=hpf.cell 0;have q2:=hpv.cell 0;have q3:=hS.head.cell 0;simp at q0 q1 q2 q3;have e:=trues_tl hw hid hf hh (by omega:k≤S.n);have hsl:=run_head B.bo k B.co S.order.length (by omega) (by omega);have hlT:∀ i∈B.own,i∉l :: T:=fun i hi x=>by
  rcases List.mem_cons.1 x with e | x
  ·have:=hS0.lt i hi;omega
  ·exact (hT _ x).2 hi
 have hts:=hide (fun W1 (hk1:aQA [] W W1)=>tell_says (B:=B) (S:=S) (l:=l) (J:=J) (T:=T) (L:=S.trues f k) (z:=W.heap.size) hw hid ho hJ hlT (fun m pre x W1 h1 h2=>gQJ (hY pre x W1 h1 h2)) k 0 f 0 B.co [] W1 (by omega) (by omega) (by omega) (by decide) hf (by have:=(pQA hw hf).1;simpa using this) (by rw [e];simp) (hS.keeps hk1 (by simp)) hk1.size (hJ _ _ _ h0 (hk1.below (Nat.le_refl _) (by simp))));have He:=hide e;clear hY hJ e;refine callsIn_wide.2 ?_;simp only [List.append_toArray,List.cons_append,List.nil_append];go_enter func153,ntmps153
 go_wp2_with fail
 refine vQE 9 (by kernel_rfl) (by kernel_rfl) ?_;simp only [List.take_succ_cons,List.take_zero,List.drop_succ_cons,List.drop_zero];repeat (go_big_quiet_step (fail))
 refine wpQuiet_nil ?_;go_wp2_with fail
 refine (hts.out _ (aQA.drew [] W)).mono ?_;rintro e W1 ⟨rfl,h1,k1⟩;go_wp2_with fail
 go_end0
 exact ⟨⟨_,rfl⟩,_,He.out,h1,(aQA.drew (l :: T) W).trans k1⟩
end
section
open Go.RowKit Go.Shelf
theorem oQL {w:World} {base:Nat} {v:Value} {xs:List Int} (h:w.ownsRow base 3 1 v xs.length (ints xs)) (h0:0<xs.length):∃ g cap,v=.slice (some ⟨g,0,none⟩) xs.length cap∧base≤g∧lQB w g xs∧xs.length≤cap:=by
 obtain ⟨e0,⟨rfl,e2⟩ | ⟨g,cap,cur,rfl,e2,e3,e4,e5,e6,e7⟩⟩:=id h
 ·omega
 ·refine ⟨g,cap,rfl,e2,⟨cur,⟨_,e3⟩,fun i x hx=>?_⟩,(ownsRow_at h).2.2.1⟩;have:=ownsRow_cell h hx;rw [cQA.cell ⟨_,e3⟩] at this;exact this
def rgs (i:Nat):List Int:=(List.range i).map fun k:Nat=>(k:Int)
theorem sQD (i:Nat):(rgs i).length=i:=by simp [rgs]
theorem rgs_succ (i:Nat):rgs (i+1)=rgs i++[(i:Int)]:=by simp [rgs,List.range_succ]
theorem rgs_get {i k:Nat} (h:k<i):(rgs i)[k]?=some (k:Int):=by simp [rgs,h]
def ApartE (x y:Value):Prop:=∀ i j,x.ownBlock=some i→y.ownBlock=some j→i≠j
theorem pQJ {W:World} {y:Int}:∀ (j:Nat) (x:Value),(ints [y])[j]?=some x→(W.alloc (.cells #[.int .i64 y] 3)).cell? ((⟨W.heap.size,0,none⟩:Addr).add j)=some x:=by
 intro j x hx;obtain ⟨y',hy,rfl⟩:=ints_get [y] j x hx;rw [Addr.add_lit,Nat.zero_add,(cQA.new W #[.int .i64 y] 3).cell];cases j with
 | zero=>simp at hy;subst hy;rfl
 | succ j=>simp at hy
def ST.mk0 (n:Nat):ST:={ order:=rgs n,place:=rgs n,N:=[],U:=[],next:=2,K:=[] }
theorem mk0_wf (n:Nat):WF (ST.mk0 n):=by
 have ord:Ordered (rgs n) (rgs n):=by
  refine ⟨rfl,?_,?_⟩
  ·intro i v hv;have hi:i<n:=by have:=(List.getElem?_eq_some_iff.1 hv).1;rwa [sQD] at this
   rw [rgs_get hi] at hv;have:=Option.some.inj hv;subst this;rw [sQD];exact ⟨by omega,by omega,by rw [Int.toNat_natCast];exact rgs_get hi⟩
  ·intro i v hv;have hi:i<n:=by have:=(List.getElem?_eq_some_iff.1 hv).1;rwa [sQD] at this
   rw [rgs_get hi] at hv;have:=Option.some.inj hv;subst this;rw [sQD];exact ⟨by omega,by omega,by rw [Int.toNat_natCast];exact rgs_get hi⟩
 exact ⟨ord,by show (2:Int)≤2;omega,(fun f v l h ht=>nomatch ht),(fun t f=>⟨fun h=>(nomatch h),fun h=>(nomatch h)⟩)⟩
theorem mk0_calls {w:World} (n:Nat) (n1:1≤n) (n8:n≤12) :
  Calls prog 71 #[.int .i64 n] w fun e w'=>∃ B,e=.returned (.pointer (some ⟨B.b,0,none⟩))∧gQA w' B (ST.mk0 n)∧(∀ i∈B.own,w.heap.size≤i)∧n≤B.co∧aQA [] w w':=by
 obtain ⟨i0,hi0,hz0,hz1,hz2⟩:=info_parts info3;have hmm:=@run_makeMap prog;go_enter func71,ntmps71
 go_wp2_with fail
 have z1:=size_alloc' w (.map #[] 0);have z2:=size_alloc' (w.alloc (.map #[] 0)) (.map #[] 0);have z3:=size_alloc' ((w.alloc (.map #[] 0)).alloc (.map #[] 0)) (.map #[] 0);rw [z1] at z2;rw [z2] at z3;obtain ⟨z,hz⟩:∃ z,w.heap.size=z:=⟨_,rfl⟩;have a1:cQB eI eT (w.alloc (.map #[] 0)) w.heap.size ([]:List (Int×Tri)):=cQB.new w 0;have a2:cQB eT eI ((w.alloc (.map #[] 0)).alloc (.map #[] 0)) (w.alloc (.map #[] 0)).heap.size ([]:List (Tri×Int)):=cQB.new _ 0;have a3:cQB eT eI (((w.alloc (.map #[] 0)).alloc (.map #[] 0)).alloc (.map #[] 0)) ((w.alloc (.map #[] 0)).alloc (.map #[] 0)).heap.size ([]:List (Tri×Int)):=cQB.new _ 0;have a4:=cQA.new (((w.alloc (.map #[] 0)).alloc (.map #[] 0)).alloc (.map #[] 0)) #[.slice none 0 0,.slice none 0 0,.map (some w.heap.size),.map (some (w.heap.size+1)),.int .i64 2,.map (some (w.heap.size+1+1))] 213;have k1:=aQA.alloc [] w (.map #[] 0);have k2:=aQA.alloc [] (w.alloc (.map #[] 0)) (.map #[] 0);have k3:=aQA.alloc [] ((w.alloc (.map #[] 0)).alloc (.map #[] 0)) (.map #[] 0);have k4:=aQA.alloc [] (((w.alloc (.map #[] 0)).alloc (.map #[] 0)).alloc (.map #[] 0)) (.cells #[.slice none 0 0,.slice none 0 0,.map (some w.heap.size),.map (some (w.heap.size+1)),.int .i64 2,.map (some (w.heap.size+1+1))] 213);have z4:=size_alloc' (((w.alloc (.map #[] 0)).alloc (.map #[] 0)).alloc (.map #[] 0)) (.cells #[.slice none 0 0,.slice none 0 0,.map (some w.heap.size),.map (some (w.heap.size+1)),.int .i64 2,.map (some (w.heap.size+1+1))] 213);rw [z1] at a2;rw [z2] at a3;rw [z3] at a4 z4;have b1:=((a1.kept k2 (by simp)).kept k3 (by simp)).kept k4 (by simp);have b2:=(a2.kept k3 (by simp)).kept k4 (by simp);have b3:=a3.kept k4 (by simp);have kk:=((k1.trans k2).trans k3).trans k4;clear a1 a2 a3 k1 k2 k3 k4 z1 z2 z3;generalize (((w.alloc (.map #[] 0)).alloc (.map #[] 0)).alloc (.map #[] 0)).alloc (.cells #[.slice none 0 0,.slice none 0 0,.map (some w.heap.size),.map (some (w.heap.size+1)),.int .i64 2,.map (some (w.heap.size+1+1))] 213)=W0 at a4 b1 b2 b3 kk z4 ⊢;have Hz:=hide hz;rw [hz] at a4 b1 b2 b3 z4 ⊢;clear hz;have HW0:=hide z4;clear z4;go_loopw [11] (fun t wr=>∃ (i:Nat) (vo vp:Value),t=.int .i64 i∧i≤n∧cQA wr (z+1+1+1) #[vo,vp,.map (some z),.map (some (z+1)),.int .i64 2,.map (some (z+1+1))]∧Hid (wr.ownsRow (z+1+1+1+1) 3 1 vo i (ints (rgs i)))∧Hid (wr.ownsRow (z+1+1+1+1) 3 1 vp i (ints (rgs i)))∧ApartE vo vp∧cQB eI eT wr z ([]:List (Int×Tri))∧cQB eT eI wr (z+1) ([]:List (Tri×Int))∧cQB eT eI wr (z+1+1) ([]:List (Tri×Int))∧aQA [] w wr)
  (fun t _=>((n:Int) - intOf t).toNat)
 case atStart=>exact ⟨0,_,_,rfl,by omega,a4,hide ⟨rfl,.inl ⟨rfl,rfl⟩⟩,hide ⟨rfl,.inl ⟨rfl,rfl⟩⟩,by intro i j h;simp [Value.ownBlock] at h,b1,b2,b3,kk⟩
 case round=>
  obtain ⟨i,vo,vp,rfl,hi,hc,ho,hp,hap,m1,m2,m3,hk⟩:=hrel;clear a4 b1 b2 b3 kk HW0;by_cases hlt:i<n
  ·have hltI:(i:Int)<n:=(by omega);have hi63:(i:Int)<9223372036854775807:=(by omega);have c0:=hc.cell 0;simp at c0;have hbl:=hc.lt;have kB:=aQA.alloc [] wr (.cells #[.int .i64 i] 3);have hcB:=hc.keeps kB (by simp);have hoB:=bQA ho.out kB (by simp);have hpB:=hide (bQA hp.out kB (by simp));have hszB:z+1+1+1+1≤(wr.alloc (.cells #[.int .i64 i] 3)).heap.size:=by rw [size_alloc'];omega
   have hone:=pQJ (W:=wr) (y:=(i:Int));have hmB1:=hide (m1.kept kB (by simp));have hmB2:=hide (m2.kept kB (by simp));have hmB3:=hide (m3.kept kB (by simp));go_wp2_with (at_builtin;refine wpList_append_own_at _ rfl _ _ 40 rfl (z+1+1+1+1) 3 i0 (.int .i64 0) 1 8 underlying40 hi0 hz0 hz1 hz2 rfl (by decide) _ i (ints (rgs i)) rfl hoB ⟨wr.heap.size,0,none⟩ 1 1 (ints [(i:Int)]) rfl (by simp [ints]) hone (wQF _) (by unfold maxLen;omega) (by omega) hszB ?_)
   intro vo' W1 hown1 hgrow1 hnil1 hat1;have hex1:∃ g cap,vo' = .slice (some ⟨g,0,none⟩) (i+1) cap:=by
    rcases hown1.2 with ⟨e,e2⟩ | ⟨g,cap,cur,e,_⟩
    ·omega
    ·exact ⟨g,cap,e⟩
   obtain ⟨go,capo,hvo'⟩:=hex1;subst hvo';have k1:=grownBy_keeps' hgrow1 vo.ownBlock.toList (fun r e=>.inl (by rw [e];simp));have hlowo:∀ j∈vo.ownBlock.toList,z+1+1+1+1≤j:=fun j hj=>(hQA hoB j (by simpa using hj)).1;have hc1:=hcB.keeps k1 (fun x=>by have:=hlowo _ x;omega);have m11:=hide (hmB1.out.kept k1 (fun x=>by have:=hlowo _ x;omega));have m12:=hide (hmB2.out.kept k1 (fun x=>by have:=hlowo _ x;omega));have m13:=hide (hmB3.out.kept k1 (fun x=>by have:=hlowo _ x;omega));have hp1:=hide (bQA hpB.out k1 (fun j hj x=>hap j j (by simpa using x) hj rfl));have hap1:ApartE (.slice (some ⟨go,0,none⟩) (i+1) capo) vp:=by
    intro x y hx hy;rcases hat1 with e | e
    ·rw [e] at hx;exact hap x y hx hy
    ·rw [e] at hx;have h2:=(World.ownsRow.lt hp.out y hy).2;have h3:=Option.some.inj hx;omega
   have hk1:aQA [] w W1:=(hk.trans kB).trans_new k1 (fun j hj=>.inr (by have:=hlowo j hj;have:=Hz.out;omega));have c10:=hc1.cell 0;have f10:=hc1.frozen 0;simp at c10;have hs1:=hc1.setCell 0 (.slice (some ⟨go,0,none⟩) (i+1) capo);have ks1:=aQA.setCell W1 ⟨z+1+1+1,0,none⟩ (.slice (some ⟨go,0,none⟩) (i+1) capo);have hT:∀ j,z+1+1+1+1≤j→j∉[z+1+1+1]:=fun j hj x=>by simp only [List.mem_singleton] at x;omega
   have ho2:=hide (bQA hown1 ks1 (fun j hj=>hT j (hQA hown1 j hj).1));have hp2:=bQA hp1.out ks1 (fun j hj=>hT j (hQA hp1.out j hj).1);have m21:=hide (m11.out.kept ks1 (by simp;omega));have m22:=hide (m12.out.kept ks1 (by simp));have m23:=hide (m13.out.kept ks1 (by simp));have hk2:aQA [] w (W1.setCell ⟨z+1+1+1,0,none⟩ (.slice (some ⟨go,0,none⟩) (i+1) capo)):=hk1.trans_new ks1 (fun j hj=>.inr (by simp only [List.mem_singleton] at hj;have:=Hz.out;omega));have hs1':cQA (W1.setCell ⟨z+1+1+1,0,none⟩ (.slice (some ⟨go,0,none⟩) (i+1) capo)) (z+1+1+1) #[.slice (some ⟨go,0,none⟩) (i+1) capo,vp,.map (some z),.map (some (z+1)),.int .i64 2,.map (some (z+1+1))]:=(by simpa using hs1);clear hs1 hown1 hgrow1 hnil1 hat1 hone hszB hoB hcB c0 m11 m12 m13 hp1 hpB hmB1 hmB2 hmB3;have hbl2:=hs1'.lt;have hsz2:(W1.setCell ⟨z+1+1+1,0,none⟩ (.slice (some ⟨go,0,none⟩) (i+1) capo)).heap.size=W1.heap.size:=(by simp);have d1:=hs1'.cell 1;simp at d1;have kC:=aQA.alloc [] (W1.setCell ⟨z+1+1+1,0,none⟩ (.slice (some ⟨go,0,none⟩) (i+1) capo)) (.cells #[.int .i64 i] 3);have hcC:=hs1'.keeps kC (by simp);have hoC:=hide (bQA ho2.out kC (by simp));have hpC:=bQA hp2 kC (by simp);have hszC:z+1+1+1+1≤((W1.setCell ⟨z+1+1+1,0,none⟩ (.slice (some ⟨go,0,none⟩) (i+1) capo)).alloc (.cells #[.int .i64 i] 3)).heap.size:=by rw [size_alloc',hsz2];rw [hsz2] at hbl2;omega
   have hone:=pQJ (W:=(W1.setCell ⟨z+1+1+1,0,none⟩ (.slice (some ⟨go,0,none⟩) (i+1) capo))) (y:=(i:Int));have n1':=hide (m21.out.kept kC (by simp));have n2':=hide (m22.out.kept kC (by simp));have n3':=hide (m23.out.kept kC (by simp));rw [hsz2] at hone hbl2;have Hbl2:=hide hbl2;clear hp2 hsz2 hbl2;go_wp2_with (at_builtin;refine wpList_append_own_at _ rfl _ _ 40 rfl (z+1+1+1+1) 3 i0 (.int .i64 0) 1 8 underlying40 hi0 hz0 hz1 hz2 rfl (by decide) _ i (ints (rgs i)) rfl hpC ⟨W1.heap.size,0,none⟩ 1 1 (ints [(i:Int)]) rfl (by simp [ints]) hone (wQF _) (by unfold maxLen;omega) (by omega) hszC ?_)
   intro vp' W3 hown3 hgrow3 hnil3 hat3;have hex3:∃ g cap,vp' = .slice (some ⟨g,0,none⟩) (i+1) cap:=by
    rcases hown3.2 with ⟨e,e2⟩ | ⟨g,cap,cur,e,_⟩
    ·omega
    ·exact ⟨g,cap,e⟩
   obtain ⟨gp,capp,hvp'⟩:=hex3;subst hvp';have k3:=grownBy_keeps' hgrow3 vp.ownBlock.toList (fun r e=>.inl (by rw [e];simp));have hlowp:∀ j∈vp.ownBlock.toList,z+1+1+1+1≤j:=fun j hj=>(hQA hpC j (by simpa using hj)).1;have hc3:=hcC.keeps k3 (fun x=>by have:=hlowp _ x;omega);have q1:=hide (n1'.out.kept k3 (fun x=>by have:=hlowp _ x;omega));have q2:=hide (n2'.out.kept k3 (fun x=>by have:=hlowp _ x;omega));have q3:=hide (n3'.out.kept k3 (fun x=>by have:=hlowp _ x;omega));have ho3:=hide (bQA hoC.out k3 (fun j hj x=>hap1 j j hj (by simpa using x) rfl));have hap3:ApartE (.slice (some ⟨go,0,none⟩) (i+1) capo) (.slice (some ⟨gp,0,none⟩) (i+1) capp):=by
    intro x y hx hy;rcases hat3 with e | e
    ·rw [e] at hy;exact hap1 x y hx hy
    ·rw [e] at hy;have h2:=(World.ownsRow.lt ho2.out x hx).2;have h3:=Option.some.inj hy;simp at h2 h3;omega
   have hk3:aQA [] w W3:=(hk2.trans kC).trans_new k3 (fun j hj=>.inr (by have:=hlowp j hj;have:=Hz.out;omega));have c30:=hc3.cell 1;have f30:=hc3.frozen 1;simp at c30;have hs3:=hc3.setCell 1 (.slice (some ⟨gp,0,none⟩) (i+1) capp);have ks3:=aQA.setCell W3 ⟨z+1+1+1,1,none⟩ (.slice (some ⟨gp,0,none⟩) (i+1) capp);have ho4:=hide (bQA ho3.out ks3 (fun j hj=>hT j (hQA ho3.out j hj).1));have hp4:=hide (bQA hown3 ks3 (fun j hj=>hT j (hQA hown3 j hj).1));have r1:=hide (q1.out.kept ks3 (by simp;omega));have r2:=hide (q2.out.kept ks3 (by simp));have r3:=hide (q3.out.kept ks3 (by simp));have hk4:aQA [] w (W3.setCell ⟨z+1+1+1,1,none⟩ (.slice (some ⟨gp,0,none⟩) (i+1) capp)):=hk3.trans_new ks3 (fun j hj=>.inr (by simp only [List.mem_singleton] at hj;have:=Hz.out;omega));clear hown3 hgrow3 hnil3 hat3 hone hszC hpC hcC d1;go_wp2_with fail
   go_roundw
   ·refine ⟨i+1,_,_,by simp,by omega,by simpa using hs3,hide ?_,hide ?_,hap3,r1.out,r2.out,r3.out,hk4⟩
    ·have:=ho4.out;rw [rgs_succ];simpa [ints] using this
    ·have:=hp4.out;rw [rgs_succ];simpa [ints] using this
   ·simp only [intOf];omega
  ·have hie:i=n:=(by omega);subst hie;obtain ⟨go,capo,hvo,hgo,hro,hco⟩:=oQL (xs:=rgs i) (by rw [sQD];exact ho.out) (by rw [sQD];omega);obtain ⟨gp,capp,hvp,hgp,hrp,_⟩:=oQL (xs:=rgs i) (by rw [sQD];exact hp.out) (by rw [sQD];omega);rw [sQD] at hvo hvp hco;subst hvo hvp;have hne:go≠gp:=hap go gp rfl rfl;have Hco:=hide hco;clear hco;clear ho hp hap hlt;go_wp2_with fail
   go_ret
   refine ⟨⟨z+1+1+1,go,gp,z,z+1,z+1+1,capo,capp⟩,rfl,⟨by simpa [ST.mk0,sQD] using hc,hro,hrp,m1,m2,m3,?_⟩,?_,Hco.out,hk⟩
   ·simp [SB.own];omega
   ·intro j hj;have:=Hz.out;simp only [SB.own,List.mem_cons,List.not_mem_nil,or_false] at hj;omega
end
section
open Go.RowKit
structure EngS (w:World) (B:SB) (S:ST):Prop where
 sat:gQA w B S
 wf:WF S
 kok:KOK S
 ord:S.order=rgs 12
 co:12≤B.co
theorem EngS.n {w:World} {B:SB} {S:ST} (h:EngS w B S):S.n=12:=by unfold ST.n;rw [h.ord];rfl
theorem EngS.ho {w:World} {B:SB} {S:ST} (h:EngS w B S):∀ i:Nat,i<S.n→S.order[i]?=some (i:Int):=fun i hi=>by rw [h.ord];exact rgs_get (by rw [←h.n];exact hi)
theorem EngS.idn {w:World} {B:SB} {S:ST} (h:EngS w B S):Idn S:=fun v v0 v1=>by
 obtain ⟨i,rfl⟩:=Int.eq_ofNat_of_zero_le v0;have:=(h.wf.ord.op i _ (h.ho i (by omega))).2.2;rw [Int.toNat_natCast] at this;unfold ST.pl;rw [Int.toNat_natCast,this];rfl
theorem EngS.keeps {w w':World} {B:SB} {S:ST} {T:List Nat} (h:EngS w B S) (k:aQA T w w') (hT:∀ i∈B.own,i∉T):EngS w' B S:=⟨h.sat.keeps k hT,h.wf,h.kok,h.ord,h.co⟩
theorem EngS.keeps0 {w w':World} {B:SB} {S:ST} (h:EngS w B S) (k:aQA [] w w'):EngS w' B S:=h.keeps k (by simp)
def Rep (S:ST) (f:Int) (c:Nat) (R:List Nat→Prop):Prop:=S.ok f∧∀ σ,S.den f σ=true↔R (tupF σ 0 c)
def RepB (S:ST) (f:Int) (F:(Int→Bool)→Prop):Prop:=S.ok f∧∀ σ,S.den f σ=true↔F σ
theorem RepB.ext {S S':ST} {f:Int} {F:(Int→Bool)→Prop} (h:RepB S f F) (x:Ext S S') (hw:WF S) (hw':WF S'):RepB S' f F:=⟨x.ok h.1,fun σ=>by rw [x.den hw hw' h.1];exact h.2 σ⟩
theorem Rep.hk {S:ST} {f:Int} {c:Nat} {R:List Nat→Prop} (h:Rep S f c R):Hk (3 * c) S f:=fun v v0 v1 σ b=>by
 have e:tupF (upd σ v b) 0 c=tupF σ 0 c:=kQK c 0 fun u _ hu=>upd_ne _ _ (by omega);have h1:=h.2 (upd σ v b);rw [e,←h.2 σ] at h1;cases h2:S.den f σ <;> cases h3:S.den f (upd σ v b) <;> simp_all
def OutB (B:SB) (w:World) (S:ST) (F:(Int→Bool)→Prop) (c:Int) (e:Ending) (w':World):Prop:=
 ∃ r S',e=.returned (.int .i64 r)∧EngS w' B S'∧aQA B.own w w'∧Ext S S'∧S'.next≤S.next+c∧RepB S' r F
theorem ord_ext {S S':ST} (x:Ext S S') (h:S.order=rgs 12):S'.order=rgs 12:=x.order.trans h
theorem sQG {B:SB} {w:World} {S:ST} {G:(Int→Bool)→Bool} {F:(Int→Bool)→Prop} {c m:Int} {e:Ending} {w':World} (hE:EngS w B S) (h:Gives B w S G c m e w') (hF:∀ σ,G σ=true↔F σ):OutB B w S F c e w':=by
 obtain ⟨r,S',rfl,h1,h2,p⟩:=h;exact ⟨r,S',rfl,⟨h1,p.wf,p.known,ord_ext p.ext hE.ord,hE.co⟩,h2,p.ext,p.next,p.ok,fun σ=>by rw [p.den];exact hF σ⟩
theorem cst12:cst 12=4095:=by decide
theorem fc12:fc (cst 12) 12=16769025:=by decide
theorem fc13:fc (cst 12+1) 12=16773120:=by decide
section
variable {B:SB} {w:World} {S:ST} {f g:Int} {F G:(Int→Bool)→Prop}
theorem or_E (hE:EngS w B S) (hf:RepB S f F) (hg:RepB S g G) (hl:S.next+4095<lim):Calls prog 73 #[.pointer (some ⟨B.b,0,none⟩),.int .i64 f,.int .i64 g] w (OutB B w S (fun σ=>F σ∨G σ) 4095):=by
 have:=or_calls f g hE.sat hE.wf hE.kok hf.1 hg.1 (by rw [hE.n,cst12];exact hl);rw [hE.n,cst12] at this;exact this.mono fun e w' h=>sQG hE h fun σ=>by rw [Bool.or_eq_true,hf.2,hg.2]
theorem and_E (hE:EngS w B S) (hf:RepB S f F) (hg:RepB S g G) (hl:S.next+4095<lim):Calls prog 148 #[.pointer (some ⟨B.b,0,none⟩),.int .i64 f,.int .i64 g] w (OutB B w S (fun σ=>F σ∧G σ) 4095):=by
 have:=and_calls f g hE.sat hE.wf hE.kok hf.1 hg.1 (by rw [hE.n,cst12];exact hl);rw [hE.n,cst12] at this;exact this.mono fun e w' h=>sQG hE h fun σ=>by rw [Bool.and_eq_true,hf.2,hg.2]
theorem diff_E (hE:EngS w B S) (hf:RepB S f F) (hg:RepB S g G) (hl:S.next+4095<lim):Calls prog 88 #[.pointer (some ⟨B.b,0,none⟩),.int .i64 f,.int .i64 g] w (OutB B w S (fun σ=>F σ∧¬ G σ) 4095):=by
 have:=diff_calls f g hE.sat hE.wf hE.kok hf.1 hg.1 (by rw [hE.n,cst12];exact hl);rw [hE.n,cst12] at this;exact this.mono fun e w' h=>sQG hE h fun σ=>by rw [Bool.and_eq_true,hf.2,←hg.2];simp
theorem xor_E (hE:EngS w B S) (hf:RepB S f F) (hg:RepB S g G) (hl:S.next+8190<lim):Calls prog 213 #[.pointer (some ⟨B.b,0,none⟩),.int .i64 f,.int .i64 g] w (OutB B w S (fun σ=>¬ (F σ↔G σ)) 8190):=by
 have:=xor_calls f g hE.sat hE.wf hE.kok hf.1 hg.1 (by rw [hE.n,cst12];omega);rw [hE.n,cst12] at this;exact this.mono fun e w' h=>sQG hE h fun σ=>by rw [←hf.2,←hg.2];cases S.den f σ <;> cases S.den g σ <;> simp
theorem not_E (hE:EngS w B S) (hf:RepB S f F) (hl:S.next+4095<lim):Calls prog 170 #[.pointer (some ⟨B.b,0,none⟩),.int .i64 f] w (OutB B w S (fun σ=>¬ F σ) 4095):=by
 have:=not_calls f hE.sat hE.wf hE.kok hf.1 (by rw [hE.n,cst12];exact hl);rw [hE.n,cst12] at this;exact this.mono fun e w' h=>sQG hE h fun σ=>by rw [←hf.2];simp
theorem var_E (hE:EngS w B S) (i:Nat) (hi:i<12) (hl:S.next+1<lim):Calls prog 145 #[.pointer (some ⟨B.b,0,none⟩),.int .i64 (i:Int)] w (OutB B w S (fun σ=>σ i=true) 1):=by
 have:=svar_calls (i:Int) hE.sat hE.wf hE.kok (by omega) (by rw [hE.n];omega) (by unfold lim at hl ⊢;omega);exact this.mono fun e w' h=>sQG hE h fun σ=>Iff.rfl
theorem subst_E (hE:EngS w B S) {bt ct k:Nat} {bys:List Int} (hf:S.ok f) (hG:Hk k S f) (hrow:lQB w bt bys) (hbt:bt∉B.own) (hlen:k≤bys.length) (hby:∀ b∈bys,S.ok b) (hl:S.next+16769025<lim) :
  Calls prog 146 #[.pointer (some ⟨B.b,0,none⟩),.int .i64 f,.slice (some ⟨bt,0,none⟩) bys.length ct] w (OutB B w S (fun σ=>S.den f (sbV S bys σ)=true) 16769025):=by
 have:=substG_calls (ct:=ct) f bt k bys hE.sat hE.wf hE.kok hf hrow hbt hlen hby hG (by rw [hE.n,fc12];exact hl);rw [hE.n,fc12] at this;refine this.mono ?_;rintro e w' ⟨r,S',rfl,h1,h2,p⟩;exact ⟨r,S',rfl,⟨h1,p.wf,p.known,ord_ext p.ext hE.ord,hE.co⟩,h2,p.ext,p.next,p.rel.1,fun σ=>by rw [p.rel.2,p.ext.den hE.wf p.wf hf,sbV_ext p.ext hE.wf p.wf hby]⟩
theorem exists_E (hE:EngS w B S) {X:Nat} (hf:RepB S f F) (hX:X<4096) (hl:S.next+16773120<lim) :
  Calls prog 147 #[.pointer (some ⟨B.b,0,none⟩),.int .i64 f,.int .i64 (X:Int)] w (OutB B w S (fun σ=>∃ τ:Int→Bool,(∀ v:Nat,v<12→X.testBit v=false→τ v=σ v)∧F τ) 16773120):=by
 have:=exists_calls f (X:Int) hE.sat hE.wf hE.kok hf.1 (by rw [hE.n];omega) (by omega) (by omega) (by rw [hE.n,fc13];exact hl);rw [hE.n,fc13] at this;refine this.mono ?_;rintro e w' ⟨r,S',rfl,h1,h2,p⟩;have hn:S'.n=12:=by rw [p.ext.n,hE.n]
 refine ⟨r,S',rfl,⟨h1,p.wf,p.known,ord_ext p.ext hE.ord,hE.co⟩,h2,p.ext,p.next,p.rel.1,fun σ=>?_⟩;rw [p.rel.2.2];constructor
 ·rintro ⟨τ,h3,h4⟩;exact ⟨τ,fun v hv hb=>h3 v (by omega) (by rw [hn];omega) (by rw [bitN];exact hb),by rw [p.ext.den hE.wf p.wf hf.1,hf.2] at h4;exact h4⟩
 ·rintro ⟨τ,h3,h4⟩;refine ⟨τ,fun v v0 v1 hb=>?_,by rw [p.ext.den hE.wf p.wf hf.1,hf.2];exact h4⟩;obtain ⟨i,rfl⟩:=Int.eq_ofNat_of_zero_le v0;rw [hn] at v1;exact h3 i (by omega) (by rw [←bitN];exact hb)
end
structure BsAt (w:World) (bb:Nat) (B:SB):Prop where
 cell:w.cell? ⟨bb,4,none⟩=some (.pointer (some ⟨B.b,0,none⟩))
 lt:bb<w.heap.size
 no:bb∉B.own
theorem cQF {w w':World} {T:List Nat} (k:aQA T w w') {b i:Nat} (hb:b<w.heap.size) (hT:b∉T):w'.cell? ⟨b,i,none⟩=w.cell? ⟨b,i,none⟩:=by
 unfold World.cell?;rw [k.block b hb hT]
theorem BsAt.keeps {w w':World} {bb:Nat} {B:SB} {T:List Nat} (h:BsAt w bb B) (k:aQA T w w') (hT:bb∉T):BsAt w' bb B:=⟨by rw [cQF k h.lt hT];exact h.cell,Nat.lt_of_lt_of_le h.lt k.size,h.no⟩
theorem BsAt.own {w w':World} {bb:Nat} {B:SB} (h:BsAt w bb B) (k:aQA B.own w w'):BsAt w' bb B:=h.keeps k h.no
theorem rQD (w:World) (p i:Nat) (hp:p<100) (hi:i<100):Calls prog 144 #[.int .i64 (p:Int),.int .i64 (i:Int)] w fun e w'=>e=.returned (.int .i64 ((3 * p+i:Nat):Int))∧w' = w:=by
 go_enter func144,ntmps144
 go_wp2
 go_ret
 exact ⟨by simp,rfl⟩
end
section
open Go.RowKit
def tbit (σ:Int→Bool) (t:uQA) (i:Nat):Bool:=if t.isVar then σ (3 * t.num.toNat+i:Nat) else t.num.toNat.testBit (2 - i)
def tnum (σ:Int→Bool) (t:uQA):Nat:=if t.isVar then numA σ t.num.toNat else t.num.toNat
def TmOk (t:uQA):Prop:=0≤t.num∧t.num<8∧(t.isVar=true→t.num<4)
def tmV (t:uQA):Value:=.agg #[.bool t.isVar,.int .i64 t.num]
theorem shr_bit (m k:Nat) (hm:m<8):(bits BinOp.and IntKind.i64 ((m:Int) / 2 ^ k) 1 == 1)=m.testBit k:=by
 have h:=bit_test (a:=(m:Int)) (v:=(k:Int)) (by omega) (by omega);rw [Int.toNat_natCast] at h;rw [h,bitN]
theorem bit_const {w:World} (bb m i:Nat) (hm:m<8) (hi:i<3):Calls prog 214 #[.pointer (some ⟨bb,0,none⟩),.agg #[.bool false,.int .i64 (m:Int)],.int .i64 (i:Int)] w fun e w'=>e=.returned (.int .i64 (if m.testBit (2 - i) then 1 else 0))∧aQA [] w w':=by
 have h2:=shr_bit m (2 - i) hm;obtain ⟨k,hk⟩:∃ k:Nat,2 - i=k:=⟨_,rfl⟩;have hkI:IntKind.i64.wrap (2 - (i:Int))=(k:Int):=by rw [IntKind.wrap_i64];omega
 have hk3:k<3:=by omega
 rw [hk] at h2 ⊢;have hmI:(m:Int)<8:=by omega
 clear hk hi;cases hb:m.testBit k;all_goals
  rw [hb] at h2;go_enter func214,ntmps214
  go_wp2
  go_ret
  exact ⟨rfl,aQA.alloc [] w _⟩
theorem bit_var {w:World} {B:SB} {S:ST} (hE:EngS w B S) {bb:Nat} (hb:BsAt w bb B) (m i:Nat) (hm:m<4) (hi:i<3) (hl:S.next+1<lim):Calls prog 214 #[.pointer (some ⟨bb,0,none⟩),.agg #[.bool true,.int .i64 (m:Int)],.int .i64 (i:Int)] w (OutB B w S (fun σ=>σ (3 * m+i:Nat)=true) 1):=by
 have kA:=aQA.alloc [] w (.cells #[.bool true,.int .i64 (m:Int)] 220);have hT:=cQA.new w #[.bool true,.int .i64 (m:Int)] 220;have hE1:=hE.keeps0 kA;have hb1:=hb.keeps kA (by simp);have hc1:=hb1.cell;have hv:=hide (fun W=>rQD W m i (by omega) (by omega));have hx:=hide (fun (W:World) (k:aQA [] (w.alloc (.cells #[.bool true,.int .i64 (m:Int)] 220)) W)=>var_E (hE1.keeps0 k) (3 * m+i) (by omega) hl);generalize hW:w.alloc (.cells #[.bool true,.int .i64 (m:Int)] 220)=W at *;generalize hz:w.heap.size=z at *;generalize 3 * m+i=q at *;have c0:=hT.cell 0;have c1:=hT.cell 1;simp at c0 c1;go_enter func214,ntmps214
 go_wp2_with fail
 have hv2:=hide (hv.out W.drew);refine vQE 8 (by kernel_rfl) (by kernel_rfl) ?_;simp only [List.take_succ_cons,List.take_zero,List.drop_succ_cons,List.drop_zero];repeat (first | go_big_quiet_step (fail) | (go_big_quiet_want;go_big_quiet_op;apply Exists.intro;refine And.intro (hv2.out) ?_;go_big_quiet_on))
 refine wpQuiet_nil ?_;go_wp2_with fail
 refine (hx.out _ (aQA.drew [] W)).mono ?_;rintro e W1 ⟨r,S1,rfl,hE2,k2,x2,n2,hr⟩;go_wp2_with fail
 go_ret
 exact ⟨r,S1,rfl,hE2,((kA.trans (aQA.drew [] W)).mono (by simp)).trans k2,x2,n2,hr⟩
theorem repB_const {S:ST} (b:Bool):RepB S (if b then 1 else 0) (fun _=>b=true):=by
 cases b
 ·exact ⟨yQE S,fun σ=>by simp [eQB]⟩
 ·exact ⟨qQJ S,fun σ=>by simp [pQC]⟩
theorem bit_calls {w:World} {B:SB} {S:ST} (hE:EngS w B S) {bb:Nat} (hb:BsAt w bb B) (t:uQA) (ht:TmOk t) (i:Nat) (hi:i<3) (hl:S.next+1<lim):Calls prog 214 #[.pointer (some ⟨bb,0,none⟩),tmV t,.int .i64 (i:Int)] w (OutB B w S (fun σ=>tbit σ t i=true) 1):=by
 obtain ⟨h0,h8,h4⟩:=ht;obtain ⟨v,num⟩:=t;simp only at h0 h8 h4;obtain ⟨m,rfl⟩:=Int.eq_ofNat_of_zero_le h0;cases v with
 | true=>exact bit_var hE hb m i (by have:=h4 rfl;omega) hi hl
 | false=>
  refine (bit_const bb m i (by omega) hi).mono ?_;rintro e w' ⟨rfl,k⟩;exact ⟨_,S,rfl,hE.keeps0 k,k.mono (by simp),Ext.refl S,by omega,repB_const _⟩
theorem num_eq {a b c a' b' c':Bool}:4 * a.toNat+2 * b.toNat+c.toNat=4 * a'.toNat+2 * b'.toNat+c'.toNat↔(a=a'∧b=b'∧c=c'):=by
 cases a <;> cases b <;> cases c <;> cases a' <;> cases b' <;> cases c' <;> decide
theorem num_bits:∀ m:Nat,m<8→m=4 * (m.testBit 2).toNat+2 * (m.testBit 1).toNat+(m.testBit 0).toNat:=by decide
theorem tnum_bits (σ:Int→Bool) {t:uQA} (ht:TmOk t):tnum σ t=4 * (tbit σ t 0).toNat+2 * (tbit σ t 1).toNat+(tbit σ t 2).toNat:=by
 obtain ⟨h0,h8,_⟩:=ht;unfold tnum tbit;cases t.isVar with
 | true=>simp only [if_true];rfl
 | false=>simp only [Bool.false_eq_true,if_false];exact num_bits _ (by omega)
def eqTo (col:Nat) (t:uQA) (j:Nat) (σ:Int→Bool):Prop:=∀ i,i<j→(σ (3 * col+i:Nat)=true↔tbit σ t i=true)
theorem eqTo_all (col:Nat) {t:uQA} (ht:TmOk t) (σ:Int→Bool):eqTo col t 3 σ↔numA σ col=tnum σ t:=by
 rw [tnum_bits σ ht];unfold numA;rw [num_eq];constructor
 ·intro h;exact ⟨Bool.eq_iff_iff.2 (h 0 (by omega)),Bool.eq_iff_iff.2 (h 1 (by omega)),Bool.eq_iff_iff.2 (h 2 (by omega))⟩
 ·rintro ⟨h0,h1,h2⟩ i hi;match i with
  | 0=>exact Bool.eq_iff_iff.1 h0
  | 1=>exact Bool.eq_iff_iff.1 h1
  | 2=>exact Bool.eq_iff_iff.1 h2
  | i+3=>omega
theorem vQL {w:World} {B:SB} {S:ST} (hE:EngS w B S) {bb:Nat} (hb:BsAt w bb B) (col:Nat) (hcol:col<4) (t:uQA) (ht:TmOk t) (hl:S.next+40000<lim):Calls prog 149 #[.pointer (some ⟨bb,0,none⟩),.int .i64 (col:Int),tmV t] w (OutB B w S (fun σ=>numA σ col=tnum σ t) 36861):=by
 have kA:=aQA.alloc [] w (.cells #[.bool t.isVar,.int .i64 t.num] 220);have hT:=cQA.new w #[.bool t.isVar,.int .i64 t.num] 220;have hE1:=hE.keeps0 kA;have hb1:=hb.keeps kA (by simp);have hzo:w.heap.size∉B.own:=hE.sat.fresh (Nat.le_refl _);have Hl:=hide hl;have Ht:=hide ht;clear hl ht;unfold tmV;have hEq:=fun σ=>eqTo_all col Ht.out σ;obtain ⟨v,m⟩:=t;simp only at hT kA hE1 hb1;generalize hW:w.alloc (.cells #[.bool v,.int .i64 m] 220)=W at hT kA hE1 hb1;go_enter func149,ntmps149
 go_wp2_with fail
 generalize hz:w.heap.size=z at *;go_loopw [7,10] (fun x y wr=>∃ (r:Int) (j:Nat) (S1:ST),x=.int .i64 r∧y=.int .i64 j∧j≤3∧EngS wr B S1∧aQA B.own W wr∧Ext S S1∧S1.next≤S.next+12287 * j∧RepB S1 r (eqTo col ⟨v,m⟩ j)) (fun _ y _=>((3:Int) - intOf y).toNat)
 case atStart=>exact ⟨1,0,S,rfl,rfl,by omega,hE1,aQA.refl _ _,Ext.refl S,by omega,qQJ S,fun σ=>by simp [pQC,eqTo]⟩
 case round=>
  obtain ⟨r,j,S1,rfl,rfl,hj,hEr,hk,hx,hn,hr⟩:=hrel;have hbr:=hb1.own hk;have hTr:=hT.keeps hk hzo;by_cases hj3:j<3
  ·have hjI:(j:Int)<3:=(by omega);have hv:=hide (fun W=>rQD W col j (by omega) (by omega));have h1:=hide (fun (W:World) (k:aQA [] wr W)=>var_E (hEr.keeps0 k) (3 * col+j) (by omega) (by have:=Hl.out;omega));have g0:=hbr.cell;have g1:=hTr.cell 0;have g2:=hTr.cell 1;simp at g1 g2;have Hn:=hide hn;clear hn;go_wp2_with fail
   go_region_held3 (fun w'=>w'.cell? ⟨bb,4,none⟩=some (.pointer (some ⟨B.b,0,none⟩))∧w'.cell? ⟨z,0,none⟩=some (.bool v)∧w'.cell? ⟨z,1,none⟩=some (.int .i64 m)) (first | exact ⟨g0,g1,g2⟩ | exact ⟨a0,a1,a2⟩ | exact ⟨b0,b1,b2⟩ | exact ⟨d0,d1,d2⟩)
    (first
    | (go_at_call 144
       refine (hv.out _).mono ?_;rintro e W2 ⟨rfl,rfl⟩)
    | (go_at_call 145
       refine (h1.out _ (aQA.drew [] _)).mono ?_;rintro e W3 ⟨r1,S2,rfl,hE3,k3,x3,n3,hr3⟩;have hb3:=(hbr.keeps (aQA.drew [] _) (by simp)).own k3;have hT3:=(hTr.keeps (aQA.drew [] _) (by simp)).keeps k3 hzo;have a0:=hb3.cell;have a1:=hT3.cell 0;have a2:=hT3.cell 1;simp at a1 a2)
    | (go_at_call 214
       refine (bit_calls hE3 hb3 ⟨v,m⟩ Ht.out j hj3 (by have:=Hl.out;have:=Hn.out;omega)).mono ?_;rintro e W4 ⟨r2,S3,rfl,hE4,k4,x4,n4,hr4⟩;have hb4:=hb3.own k4;have hT4:=hT3.keeps k4 hzo;have b0:=hb4.cell;have b1:=hT4.cell 0;have b2:=hT4.cell 1;simp at b1 b2)
    | (go_at_call 213
       refine (xor_E hE4 (hr3.ext x4 hE3.wf hE4.wf) hr4 (by have:=Hl.out;have:=Hn.out;omega)).mono ?_;rintro e W5 ⟨r3,S4,rfl,hE5,k5,x5,n5,hr5⟩;have hb5:=hb4.own k5;have hT5:=hT4.keeps k5 hzo;have d0:=hb5.cell;have d1:=hT5.cell 0;have d2:=hT5.cell 1;simp at d1 d2))
   all_goals
    have hd:=hide (fun (W:World) (k:aQA [] W5 W)=>diff_E (hE5.keeps0 k) (hr.ext ((x3.trans x4).trans x5) hEr.wf hE5.wf) hr5 (by have:=Hl.out;have:=Hn.out;omega));clear hv h1 g0 g1 g2 a0 a1 a2 b0 b1 b2;go_wp2_with fail
    first
     | refine (hd.out _ (aQA.refl _ _)).mono ?_
     | (refine vQE 6 (by kernel_rfl) (by kernel_rfl) ?_
        simp only [List.take_succ_cons,List.take_zero,List.drop_succ_cons,List.drop_zero];repeat (go_big_quiet_step (fail))
        refine wpQuiet_nil ?_;go_wp2_with fail
        refine (hd.out _ (aQA.drew [] _)).mono ?_)
    rintro e W6 ⟨r4,S5,rfl,hE6,k6,x6,n6,hr6⟩;go_wp2_with fail
    refine ⟨⟨r4,j+1,S5,rfl,by simp,by omega,hE6,((hk.trans ((aQA.drew [] _).mono (by simp))).trans k3).trans ((k4.trans k5).trans (by first | exact k6 | exact ((aQA.drew [] _).mono (by simp)).trans k6)),hx.trans ((x3.trans x4).trans (x5.trans x6)),by have:=Hn.out;push_cast;omega,hr6.1,fun σ=>?_⟩,by simp only [intOf];omega⟩;rw [hr6.2];constructor
    ·rintro ⟨h2,h3⟩ i hi;by_cases e:i<j
     ·exact h2 i e
     ·have:i=j:=(by omega);subst this;exact Classical.not_not.1 h3
    ·exact fun h2=>⟨fun i hi=>h2 i (by omega),fun h3=>h3 (h2 j (by omega))⟩
  ·have hjI:¬ (j:Int)<3:=(by omega);have e:j=3:=(by omega);subst e;go_wp2_with fail
   go_ret
   exact ⟨r,S1,rfl,hEr,(kA.mono (by simp)).trans hk,hx,by omega,hr.1,fun σ=>by rw [hr.2,hEq]⟩
end
section
open Go.RowKit Go.Shelf
attribute [local go_sem] Oper.semAt_some
structure GrT (b:Nat) (τ:TypeId) (T:List Nat) (w w':World):Prop where
 os:w'.os=w.os
 tape:w'.tape=w.tape
 output:w'.output=w.output
 size:w.heap.size≤w'.heap.size
 block:∀ i,i<w.heap.size→i∉T→¬ (b≤i∧∃ cs f,w.heap[i]?=some (.cells cs τ f))→w'.heap[i]?=w.heap[i]?
theorem GrT.refl (b:Nat) (τ:TypeId) (T:List Nat) (w:World):GrT b τ T w w:=⟨rfl,rfl,rfl,Nat.le_refl _,fun _ _ _ _=>rfl⟩
theorem GrT.trans {b:Nat} {τ:TypeId} {T:List Nat} {x y z:World} (h:GrT b τ T x y) (k:GrT b τ T y z):GrT b τ T x z:=
 ⟨k.os.trans h.os,k.tape.trans h.tape,k.output.trans h.output,Nat.le_trans h.size k.size,fun i hi hT hc=>by
  have e:=h.block i hi hT hc;refine (k.block i (Nat.lt_of_lt_of_le hi h.size) hT ?_).trans e;rw [e];exact hc⟩
theorem GrT.mono {b:Nat} {τ:TypeId} {T T':List Nat} {w w':World} (h:GrT b τ T w w') (hT:∀ i∈T,i∈T'):GrT b τ T' w w':=
 ⟨h.os,h.tape,h.output,h.size,fun i hi hn hc=>h.block i hi (fun x=>hn (hT i x)) hc⟩
theorem GrT.drop {b l:Nat} {τ:TypeId} {T:List Nat} {w w':World} (h:GrT b τ (l :: T) w w') (hl:w.heap.size≤l):GrT b τ T w w':=
 ⟨h.os,h.tape,h.output,h.size,fun i hi hn hc=>h.block i hi (fun x=>(List.mem_cons.1 x).elim (fun e=>by omega) hn) hc⟩
theorem aQA.grT {b:Nat} {τ:TypeId} {T T':List Nat} {w w':World} (h:aQA T w w') (hT:∀ i∈T,i∈T'):GrT b τ T' w w':=
 ⟨h.os,h.tape,h.output,h.size,fun i hi hn _=>h.block i hi (fun x=>hn (hT i x))⟩
theorem aQA.grTrow {b:Nat} {τ:TypeId} {T T':List Nat} {w w':World} (h:aQA T w w') (hT:∀ i∈T,i∈T'∨(b≤i∧∃ cs f,w.heap[i]?=some (.cells cs τ f))):GrT b τ T' w w':=
 ⟨h.os,h.tape,h.output,h.size,fun i hi hn hc=>h.block i hi (fun x=>(hT i x).elim hn hc)⟩
theorem gQA.grT {w w':World} {B:SB} {S:ST} {b:Nat} {τ:TypeId} {T:List Nat} (h:gQA w B S) (k:GrT b τ T w w') (hT:∀ i∈B.own,i∉T) (hB:∀ i∈B.own,i<b):gQA w' B S:=
 h.of_heap (fun i hi=>k.block i (h.lt i hi) (hT i hi) (fun q=>by have:=hB i hi;have:=q.1;omega))
def IterT {α:Type} (τ:TypeId) (b:Nat) (gf:FuncId) (lb:Array Value) (encs:α→Array Value) (cond:List α→α→World→Prop) (Good:List α→Prop) (T:List Nat) (w:World):Prop:=
 ∀ (n l:Nat) (J:List α→World→Prop) (W:World),w.heap.size≤l→l<W.heap.size→Go.RowKit.Below w.heap.size w W →
  (∀ pre W1 W2,J pre W1→fQK W.heap.size W1 W2→J pre W2) →
  (∀ pre x W1,J pre W1→cond pre x W1→YieldAt Fence.wide (n - 1) prog l (encs x) W1 fun e W'=>e=.returned (.bool true)∧J (pre++[x]) W'∧GrT b τ (l :: T) W1 W') →
  J [] W →
  CallsIn Fence.wide n prog gf (#[.func (.yield l) #[] #[]]++lb) W fun e W'=>(∃ v,e=.returned v)∧∃ xs,Good xs∧J xs W'∧GrT b τ (l :: T) W W'
def bodyPostT (I:World→Prop) (b:Nat) (τ:TypeId) (T:List Nat) (W:World):Exit→Act→World→Prop
 | .normal,_,W'=>I W'∧GrT b τ T W W'
 | _,_,_=>False
theorem range_lawT {α:Type} {n:Nat} {g:Operand} {ps:Array Tmp} {assign body:Code} {Q:Exit→Act→World→Prop} {a:Act} {w:World} {gf:Nat} {lb:Array Value} (hg:a.eval g=.func (.func gf) #[] lb)
  (eg:∀ args w,(callFunc gf args).run prog w=.ok (.enter gf args) w) {encs:α→Array Value} {cond:List α→α→World→Prop} {Good:List α→Prop} {T:List Nat} {τ:TypeId} {b:Nat} (hT:∀ t∈T,t<w.heap.size) (hseq:IterT τ b gf lb encs cond Good T w) (hcond:∀ pre x W1 W2,cond pre x W1→fQK w.heap.size W1 W2→cond pre x W2) (hps:∀ x,(encs x).size=ps.size)
  (I:List α→World→Prop) (hI:∀ pre W1 W2,I pre W1→fQK w.heap.size W1 W2→I pre W2) (h0:I [] w) (Ax:α→Act→World→Prop) (hAx:∀ x a' W1 W2,Ax x a' W1→aQA [w.heap.size+1] W1 W2→Ax x a' W2)
  (hassign:∀ (l:Nat) (pre:List α) (x:α) (W:World) (K:Act→World→Prop),w.heap.size+1<W.heap.size→I pre W→cond pre x W→(∀ a' W',Ax x a' W'→aQA [] W W'→K a' W') →
   assign.wpIn (Fence.wide.inRound l) (n - 1 - 1) prog (Exit.then K (fun _ _ _=>False)) { tmps:=(ps.zip (encs x)).foldl (fun t (p,v)=>t.setIfInBounds p v) a.tmps,defers:=[] } W)
  (hbody:∀ (l:Nat) (pre:List α) (x:α) (a':Act) (W:World),w.heap.size+1<W.heap.size→I pre W→cond pre x W→Ax x a' W→body.wpIn (Fence.wide.inRound l) (n - 1 - 1) prog (bodyPostT (I (pre++[x])) b τ T W) a' W)
  (hdone:∀ (xs:List α) (W:World),Good xs→I xs W→GrT b τ T w W→w.heap.size<W.heap.size→W.heap[w.heap.size]?=some (.deferred (some []))→Q .normal { a with defers:={ target:=.collected w.heap.size,args:=#[] } :: a.defers } W) :
  (Code.rangeFunc g ps assign body).wpIn Fence.wide n prog Q a w:=by
 refine wpIn_rangeFunc ?_;intro fn hfn;show ∃ l mark w₁ d w₁' f args w₂,(Instr.enterLoop fn a.tmps ps assign body none).run prog w=_∧_;let rec1:LoopState→Loop:=fun st=>{ state:=st,pending:=none,fn,tmps:=a.tmps,params:=ps,assign,body,defers:=w.heap.size };obtain ⟨W1,hW1⟩:∃ W1,(w.alloc (.deferred (some []))).alloc (.loop (rec1 .ready))=W1:=⟨_,rfl⟩;have k1:aQA [] w W1:=by rw [←hW1];exact (aQA.alloc _ _ _).trans (aQA.alloc _ _ _)
 have hD1:W1.heap[w.heap.size]?=some (.deferred (some [])):=by
  rw [←hW1];exact (Go.RowKit.Below.heap_alloc _ _ _ (by simp)).trans (World.alloc_heap_new w _)
 have hL1:W1.heap[w.heap.size+1]?=some (.loop (rec1 .ready)):=by
  rw [←hW1];have:=World.alloc_heap_new (w.alloc (.deferred (some []))) (.loop (rec1 .ready));rwa [World.size_alloc] at this
 have hs1:W1.heap.size=w.heap.size+1+1:=by rw [←hW1];simp
 refine ⟨w.heap.size+1,[{ target:=.collected w.heap.size,args:=#[] }],W1,{ target:=.fn (.func gf) lb,args:=#[.func (.yield (w.heap.size+1)) #[] #[]] },W1,gf,
  #[.func (.yield (w.heap.size+1)) #[] #[]]++lb,W1,?_,?_,fun _ _=>trivial,?_,fun h=>(nomatch h),?_⟩
 ·rw [←hW1];exact run_enterLoop_outer _ _ _ _ _
 ·simp only [resolve,hg];simp [go_sem]
 ·simp [invoke,go_sem,eg]
 ·refine (hseq (n - 1) (w.heap.size+1) (fun pre W=>I pre W∧W.heap[w.heap.size+1]?=some (.loop (rec1 .ready))∧W.heap[w.heap.size]?=some (.deferred (some []))) W1 (by omega) (by omega)
   (k1.below (Nat.le_refl _) (by simp)) ?_ ?_ ⟨hI _ _ _ h0 (k1.still (by simp)),hL1,hD1⟩).mono ?_
  ·rintro pre A B ⟨i,l,d⟩ hb;exact ⟨hI _ _ _ i (hb.mono (by omega)),(hb.block _ (Array.getElem?_eq_some_iff.1 l).1 (.inl (by omega))).trans l,(hb.block _ (Array.getElem?_eq_some_iff.1 d).1 (.inl (by omega))).trans d⟩
  ·rintro pre x W ⟨hi,hl,hd⟩ hc;have hlt:w.heap.size+1<W.heap.size:=(Array.getElem?_eq_some_iff.1 hl).1;refine ⟨fn,_,assign,body,run_yield (P:=prog) (args:=encs x) hl (hps x),roundIn_of_wpIn trivial (hassign _ pre x W _ hlt hi hc ?_)⟩;intro a' W' hax hk;have hl':W'.heap[w.heap.size+1]?=some (.loop (rec1 .ready)):=(hk.block _ hlt (by simp)).trans hl;have hd':W'.heap[w.heap.size]?=some (.deferred (some [])):=(hk.block _ (by omega) (by simp)).trans hd;have hlt':w.heap.size+1<W'.heap.size:=(Array.getElem?_eq_some_iff.1 hl').1;have hi':I pre W':=hI _ _ _ hi (hk.still (by simp));have k2:=aQA.putObj W' (w.heap.size+1) (.loop (rec1 .busy));have s2:fQK w.heap.size W' (W'.putObj (w.heap.size+1) (.loop (rec1 .busy))):=k2.still (by simp only [List.mem_singleton];rintro i rfl;exact ⟨by omega,by rw [hl'];intro _ _ _ e;cases e⟩);have hl2:(W'.putObj (w.heap.size+1) (.loop (rec1 .busy))).heap[w.heap.size+1]?=some (.loop (rec1 .busy)):=World.putObj_heap_same hlt';have hd2:(W'.putObj (w.heap.size+1) (.loop (rec1 .busy))).heap[w.heap.size]?=some (.deferred (some [])):=(World.putObj_heap_other (by omega)).trans hd';refine ⟨_,run_beginRound hl' rfl,?_⟩;refine wpIn_mono (hbody _ pre x a' (W'.putObj (w.heap.size+1) (.loop (rec1 .busy))) (Array.getElem?_eq_some_iff.1 hl2).1 (hI _ _ _ hi' s2) (hcond _ _ _ _ (hcond _ _ _ _ hc (hk.still (by simp))) s2) (hAx _ _ _ _ hax k2)) ?_;rintro e a3 W3 hp;cases e with
   | normal=>
    obtain ⟨hi3,k3⟩:=hp;have hl3:W3.heap[w.heap.size+1]?=some (.loop (rec1 .busy)):=(k3.block _ (Array.getElem?_eq_some_iff.1 hl2).1 (fun x=>by have:=hT _ x;omega) (by rw [hl2];rintro ⟨_,_,_,e⟩;cases e)).trans hl2;have hd3:W3.heap[w.heap.size]?=some (.deferred (some [])):=(k3.block _ (Array.getElem?_eq_some_iff.1 hd2).1 (fun x=>by have:=hT _ x;omega) (by rw [hd2];rintro ⟨_,_,_,e⟩;cases e)).trans hd2;have hlt3:=(Array.getElem?_eq_some_iff.1 hl3).1;have k4:=aQA.putObj W3 (w.heap.size+1) (.loop (rec1 .ready));refine ⟨_,_,run_endRound none hl3,rfl,⟨hI _ _ _ hi3 (k4.still (by simp only [List.mem_singleton];rintro i rfl;exact ⟨by omega,by rw [hl3];intro _ _ _ e;cases e⟩)),World.putObj_heap_same hlt3,(World.putObj_heap_other (by omega)).trans hd3⟩,?_⟩;exact (((hk.grT (by simp)).trans (k2.grT (by simp))).trans (k3.mono (fun i hi=>List.mem_cons_of_mem _ hi))).trans (k4.grT (by simp))
   | ret=>exact hp.elim
   | exit id=>exact hp.elim
   | goto t=>exact hp.elim
   | panic c=>exact hp.elim
   | outgrown=>exact hp.elim
  ·rintro e W2 ⟨⟨v,rfl⟩,xs,hG,⟨hi,hl,hd⟩,k2⟩;have k5:=aQA.putObj W2 (w.heap.size+1) (.loop (rec1 .exhausted));have hlt2:=(Array.getElem?_eq_some_iff.1 hl).1;refine ⟨none,_,run_endLoop hl (by simp [rec1]),?_⟩;refine hdone xs _ hG (hI _ _ _ hi (k5.still (by simp only [List.mem_singleton];rintro i rfl;exact ⟨by omega,by rw [hl];intro _ _ _ e;cases e⟩))) ?_ (by simp;omega) ((World.putObj_heap_other (by omega)).trans hd);exact ((k1.grT (by simp)).trans (k2.trans (k5.grT (by simp)))).drop (by omega)
def TellT (τ:TypeId) (b:Nat) (B:SB) (S:ST) (l:Nat) (J:List Nat→World→Prop) (T L:List Nat) (z k:Nat):Prop:=
 ∀ (i:Nat) (f:Int) (a c:Nat) (pre:List Nat) (W:World),i+k≤S.n→S.n≤12→k+3≤c→a<2 ^ i→S.ok f→(i:Int)≤S.lev f→(pre++S.tl k i f a) <+: L→gQA W B S→z≤W.heap.size→J pre W →
  Calls prog 154 #[.pointer (some ⟨B.b,0,none⟩),.int .i64 f,.int .i64 (a:Int),.slice (some ⟨B.bo,i,none⟩) k c,.func (.yield l) #[] #[]] W fun e W'=>e=.returned (.bool true)∧J (pre++S.tl k i f a) W'∧GrT b τ (l :: T) W W'
theorem tell_stepT {τ:TypeId} {b:Nat} {B:SB} {S:ST} (hw:WF S) (hid:Idn S) (ho:∀ i:Nat,i<S.n→S.order[i]?=some (i:Int)) {l:Nat} {J:List Nat→World→Prop} {T L:List Nat} {z:Nat} (hJ:Hid (∀ pre W1 W2,J pre W1→fQK z W1 W2→J pre W2)) (hT:∀ i∈B.own,i∉l :: T) (hB:∀ i∈B.own,i<b) {k:Nat} (ih:Hid (TellT τ b B S l J T L z k))
  (i:Nat) (f:Int) (a c:Nat) (pre:List Nat) (W:World) (hn:i+(k+1)≤S.n) (n12:S.n≤12) (hc:k+1+3≤c) (ha:a<2 ^ i) (hf:S.ok f) (hf0:(f == 0)=false) (hl:(i:Int)≤S.lev f) (hpre:Hid ((pre++(S.tl k (i+1) (S.cof f i).1 a++S.tl k (i+1) (S.cof f i).2 (a+2 ^ i))) <+: L)) (hS:gQA W B S) (hz:z≤W.heap.size) (h0:J pre W) :
  Calls prog 154 #[.pointer (some ⟨B.b,0,none⟩),.int .i64 f,.int .i64 (a:Int),.slice (some ⟨B.bo,i,none⟩) (k+1) c,.func (.yield l) #[] #[]] W fun e W'=>e=.returned (.bool true)∧J (pre++(S.tl k (i+1) (S.cof f i).1 a++S.tl k (i+1) (S.cof f i).2 (a+2 ^ i))) W'∧GrT b τ (l :: T) W W':=by
 have hi12:i<12:=by omega
 have hi:(i:Int)<S.n:=by omega
 have hpi:=hid i (by omega) hi;obtain ⟨ok0,ok1,l0,l1,_,_,_⟩:=cof_spec hw hf (u:=i) (by omega) hi (by rw [hpi];exact hl);rw [hpi] at l0 l1;have hc0:=hS.order.cell (ho i (by omega));have hsp:=hide (kQL hS hw f i hf);have hor:=or_pow ha hi12;have hpw:=pow_i hi12;have Ha:=hide (pow_a ha);clear ha;generalize hA:2 ^ i=A at hor hpw Ha hpre ⊢;generalize a+A=a2 at hor Ha hpre ⊢;generalize hf0':(S.cof f i).1=f0 at *;generalize hf1':(S.cof f i).2=f1 at *;go_enter func154,ntmps154
 go_wp2_with fail
 refine hsp.out.mono ?_;rintro e W1 ⟨rfl,k1⟩;have hS1:=hS.keeps k1 (by simp);have hS1d:=hS1.keeps (aQA.drew [] W1) (by simp);have hz1:z≤W1.heap.size:=Nat.le_trans hz k1.size;have h1:J pre W1.drew:=hJ.out _ _ _ h0 ((k1.trans (aQA.drew [] W1)).still (by simp));have hpre1:Hid ((pre++S.tl k (i+1) f0 a) <+: L):=((List.prefix_append _ _).trans (by rw [List.append_assoc];exact hpre.out));have hc1:=hide (ih.out (i+1) f0 a (c - 1) pre W1.drew (by omega) n12 (by omega) Ha.out.1 ok0 (by push_cast;omega) hpre1.out hS1d hz1 h1);have hc01:=hS1.order.cell (ho i (by omega));have Hnx:=hide (fun (W2:World) (k2:GrT b τ (l :: T) W1.drew W2) (h2:J (pre++S.tl k (i+1) f0 a) W2)=>ih.out (i+1) f1 a2 (c - 1) (pre++S.tl k (i+1) f0 a) W2 (by omega) n12 (by omega) Ha.out.2 ok1 (by push_cast;omega) (by rw [List.append_assoc];exact hpre.out) (hS1d.grT k2 hT hB) (Nat.le_trans hz1 k2.size) h2);have hbo:B.bo∉l :: T:=hT _ (by simp [SB.own]);have hcd:=hS1d.order.cell (ho i (by omega));have Hcell:=hide (fun (W2:World) (k2:GrT b τ (l :: T) W1.drew W2)=>(hS1d.order.of_heap (k2.block _ hS1d.order.lt hbo (fun q=>by have:=hB B.bo (by simp [SB.own]);omega))).cell (ho i (by omega)));clear hsp hpre ih;have hsl:=run_tail B.bo i k c (by omega);go_wp2_with fail
 go_region_held3 (fun w'=>w'.cell? ⟨B.bo,i,none⟩=some (.int .i64 (i:Int))) (first | exact hcd | exact hc2 | exact hc3)
  (first
  | (go_at_call_of 154 (Value.int IntKind.i64 f0)
     refine hc1.out.mono ?_;rintro e W2 ⟨rfl,h2,k2⟩;have hc2:=Hcell.out _ k2)
  | (go_at_call_of 154 (Value.int IntKind.i64 f1)
     refine (Hnx.out _ k2 h2).mono ?_;rintro e W3 ⟨rfl,h3,k3⟩;have hc3:=Hcell.out _ (k2.trans k3)))
 all_goals
  go_wp2_with fail
  go_ret
  exact ⟨rfl,by rw [←List.append_assoc];exact h3,(((k1.trans (aQA.drew [] W1)).grT (by simp)).trans k2).trans k3⟩
theorem tell_saysT {τ:TypeId} {b:Nat} {B:SB} {S:ST} (hw:WF S) (hid:Idn S) (ho:∀ i:Nat,i<S.n→S.order[i]?=some (i:Int)) {l:Nat} {J:List Nat→World→Prop} {T L:List Nat} {z:Nat} (hJ:∀ pre W1 W2,J pre W1→fQK z W1 W2→J pre W2) (hT:∀ i∈B.own,i∉l :: T) (hB:∀ i∈B.own,i<b)
  (hY:∀ m pre x W1,J pre W1→(pre++[x]) <+: L→YieldAt Fence.wide m prog l (eA x) W1 fun e W'=>e=.returned (.bool true)∧J (pre++[x]) W'∧GrT b τ (l :: T) W1 W'):∀ k,TellT τ b B S l J T L z k:=by
 intro k;induction k with
 | zero=>
  intro i f a c pre W hn n12 hc ha hf hl hpre hS hz h0;by_cases hf0:f=0
  ·subst hf0;refine (tell_zero W _ _ _ _).mono ?_;rintro e W' ⟨rfl,rfl⟩;exact ⟨rfl,by simpa [ST.tl] using h0,GrT.refl _ _ _ _⟩
  ·simp only [ST.tl,hf0,if_false] at hpre ⊢;refine callsIn_wide.1 (tell_end 0 W _ f (by simpa using hf0) a l c _ fun m=>?_);exact (hY m pre a W h0 hpre).mono fun e W' h=>⟨true,h.1,h⟩
 | succ k ih=>
  intro i f a c pre W hn n12 hc ha hf hl hpre hS hz h0;by_cases hf0:f=0
  ·subst hf0;refine (tell_zero W _ _ _ _).mono ?_;rintro e W' ⟨rfl,rfl⟩;exact ⟨rfl,by simpa [ST.tl] using h0,GrT.refl _ _ _ _⟩
  ·simp only [ST.tl,hf0,if_false] at hpre ⊢;exact tell_stepT hw hid ho (hide hJ) hT hB (hide ih) i f a c pre W hn n12 hc ha hf (by simpa using hf0) hl hpre hS hz h0
theorem trues_iterT (τ:TypeId) (b:Nat) {w:World} {B:SB} {S:ST} (hS0:gQA w B S) (hB:∀ i∈B.own,i<b) (hw:WF S) (hid:Idn S) (ho:∀ i:Nat,i<S.n→S.order[i]?=some (i:Int)) (n12:S.n=12) (hco:12≤B.co) (ps pf pv:Nat) (f:Int) (k:Nat) (hps0:cQA w ps #[.pointer (some ⟨B.b,0,none⟩)]) (hpf0:cQA w pf #[.int .i64 f]) (hpv0:cQA w pv #[.int .i64 (k:Int)])
  (hf:S.ok f) (hh:Hk k S f) (hk:k≤9) (T:List Nat) (hT:∀ t∈T,t<w.heap.size∧t∉B.own) :
  IterT τ b 153 #[.pointer (some ⟨ps,0,none⟩),.pointer (some ⟨pf,0,none⟩),.pointer (some ⟨pv,0,none⟩)] eA (fun pre x _=>(pre++[x]) <+: S.trues f k) (fun xs=>xs=S.trues f k) T w:=by
 intro n l J W hl hlW hb hJ hY h0;have hS:=hS0.of_heap (w':=W) (fun i hi=>hb.block i (hS0.lt i hi));have hps:=hps0.of_heap (w':=W) (hb.block ps hps0.lt);have hpf:=hpf0.of_heap (w':=W) (hb.block pf hpf0.lt);have hpv:=hpv0.of_heap (w':=W) (hb.block pv hpv0.lt);have q0:=hps.cell 0;have q1:=hpf.cell 0;have q2:=hpv.cell 0;have q3:=hS.head.cell 0;simp at q0 q1 q2 q3;have e:=trues_tl hw hid hf hh (by omega:k≤S.n);have hsl:=run_head B.bo k B.co S.order.length (by omega) (by omega);have hlT:∀ i∈B.own,i∉l :: T:=fun i hi x=>by
  rcases List.mem_cons.1 x with e | x
  ·have:=hS0.lt i hi;omega
  ·exact (hT _ x).2 hi
 have hts:=hide (fun W1 (hk1:aQA [] W W1)=>tell_saysT (τ:=τ) (b:=b) (B:=B) (S:=S) (l:=l) (J:=J) (T:=T) (L:=S.trues f k) (z:=W.heap.size) hw hid ho hJ hlT hB (fun m pre x W1 h1 h2=>gQJ (hY pre x W1 h1 h2)) k 0 f 0 B.co [] W1 (by omega) (by omega) (by omega) (by decide) hf (by have:=(pQA hw hf).1;simpa using this) (by rw [e];simp) (hS.keeps hk1 (by simp)) hk1.size (hJ _ _ _ h0 (hk1.still (by simp))));have He:=hide e;clear hY hJ e;refine callsIn_wide.2 ?_;simp only [List.append_toArray,List.cons_append,List.nil_append];go_enter func153,ntmps153
 go_wp2_with fail
 refine vQE 9 (by kernel_rfl) (by kernel_rfl) ?_;simp only [List.take_succ_cons,List.take_zero,List.drop_succ_cons,List.drop_zero];repeat (go_big_quiet_step (fail))
 refine wpQuiet_nil ?_;go_wp2_with fail
 refine (hts.out _ (aQA.drew [] W)).mono ?_;rintro e W1 ⟨rfl,h1,k1⟩;go_wp2_with fail
 go_end0
 exact ⟨⟨_,rfl⟩,_,He.out,h1,((aQA.drew [] W).grT (by simp)).trans k1⟩
end
end Go.Proofs.YtgjomknpjigkhaaGreatDoor
