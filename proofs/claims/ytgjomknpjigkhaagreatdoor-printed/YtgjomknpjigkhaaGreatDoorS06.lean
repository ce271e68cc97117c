import Derived.Test.YtgjomknpjigkhaaGreatDoorS05
namespace Go.Proofs.YtgjomknpjigkhaaGreatDoor
set_option maxRecDepth 100000
set_option maxHeartbeats 4000000
section
open Go.RowKit
def FoldSaysG (G:ST→Int→Prop) (B:SB) (rd:Nat) (cl:Value) (C:World→Prop) (I:ST→Prop) (R:ST→Int→Int→Prop) (cj:Int) (k:Nat):Prop:=
 ∀ (w:World) (S:ST) (D:List (Int×Int)) (f:Int),StoreAt w B S→WF S→KOK S→I S→C w→MapIs eI eI w rd D→DOK R S D→S.ok f→G S f→(S.n:Int) - S.lev f≤k→S.next+fc cj k<lim →
  Calls Tryz.prog 210 #[.pointer (some ⟨B.b,0,none⟩),.int .i64 f,.map (some rd),cl] w (FoldGives B rd C I R cj w S f k)
structure FoldEnvG (G:ST→Int→Prop) (B:SB) (rd:Nat) (fid:FuncId) (args:Int→Int→Int→Array Value) (C:World→Prop) (I:ST→Prop) (R:ST→Int→Int→Prop) (cj:Int):Prop where
 sep:rd∉B.own
 keepC:∀ w w',C w→Keeps (rd :: B.own) w w'→C w'
 mono:∀ S S' f r,S.ok f→Ext S S'→WF S→WF S'→I S→I S'→R S f r→R S' f r
 cost:0≤cj
 down:∀ S f v l h,WF S→G S f→get S.N f=some (v,l,h)→G S l∧G S h
 up:∀ S S' f,Ext S S'→WF S→WF S'→S.ok f→G S f→G S' f
 join:∀ w S f v l h rl rh,StoreAt w B S→WF S→KOK S→I S→C w→get S.N f=some (v,l,h)→G S f→R S l rl→R S h rh→S.next+cj<lim →
  Calls Tryz.prog fid (args v rl rh) w fun e w'=>∃ r S',e=.returned (.int .i64 r)∧StoreAt w' B S'∧Keeps B.own w w'∧Ext S S'∧WF S'∧KOK S'∧I S'∧R S' f r∧S'.next≤S.next+cj
theorem fold_step68G {B:SB} {rd:Nat} {C:World→Prop} {I:ST→Prop} {R:ST→Int→Int→Prop} {G:ST→Int→Prop} {cj:Int} {p q:Nat} (E:FoldEnvG G B rd 211 (fun v rl rh=>#[.int .i64 v,.int .i64 rl,.int .i64 rh,.pointer (some ⟨p,0,none⟩),.pointer (some ⟨q,0,none⟩)]) C I R cj) {k:Nat}
  (ih:Hid (FoldSaysG G B rd (.func (.func 211) #[] #[.pointer (some ⟨p,0,none⟩),.pointer (some ⟨q,0,none⟩)]) C I R cj k)) {w:World} {S:ST} {D:List (Int×Int)} (f v l h:Int) (hS0:StoreAt w B S) (hw:WF S) (hk:KOK S) (hi:I S) (hC:C w) (hD0:MapIs eI eI w rd D) (hd:DOK R S D) (hG:G S f) (hno:get D f=none) (ht:get S.N f=some (v,l,h))
  (hlev:(S.n:Int) - S.lev f≤(k+1:Nat)) (hlim:S.next+fc cj (k+1)<lim) :
  Calls Tryz.prog 210 #[.pointer (some ⟨B.b,0,none⟩),.int .i64 f,.map (some rd),.func (.func 211) #[] #[.pointer (some ⟨p,0,none⟩),.pointer (some ⟨q,0,none⟩)]] w (FoldGives B rd C I R cj w S f (k+1)):=by
 have hn:=hw.node f v l h ht
 have hsep:=E.sep
 have hl:=look71' hS0 ht
 have hlk:=run_look (P:=Tryz.prog) Tryz.underlying146 key3 (z:=.int .i64 0) zero3 hD0 f true
 simp only [hno,Option.map_none,Option.getD_none,eI,Option.isSome_none,if_true] at hlk
 have c2:=hS0.head.cell 2
 simp at c2
 have Hlim:=hide hlim
 have Hlev:=hide hlev
 have Ht:=hide ht
 have Hn:=hide hn
 have Hg:=hide (E.down _ _ _ _ _ hw hG ht)
 have HG:=hide hG
 clear hlim hlev ht hn hno hG
 go_enter Tryz.func210,Tryz.ntmps210
 go_wp2
 have hN:=CellsAt.new w #[.int .i64 v,.int .i64 l,.int .i64 h] 228
 have hS:=hS0.alloc (.cells #[.int .i64 v,.int .i64 l,.int .i64 h] 228)
 have hK:=Keeps.alloc (rd :: B.own) w (.cells #[.int .i64 v,.int .i64 l,.int .i64 h] 228)
 have hD:MapIs eI eI _ rd D:=hD0.of_heap (Go.RowKit.Below.heap_alloc w (.cells #[.int .i64 v,.int .i64 l,.int .i64 h] 228) rd hD0.lt)
 have hC1:=E.keepC _ _ hC hK
 have hne:w.heap.size∉rd :: B.own:=fun x=>by
  rcases List.mem_cons.1 x with e | x
  ·exact absurd hD0.lt (by rw [e];omega)
  ·exact Nat.lt_irrefl _ (hS0.lt _ x)
 clear hl hlk c2
 generalize w.alloc (.cells #[.int .i64 v,.int .i64 l,.int .i64 h] 228)=W at hN hS hK hD hC1 ⊢
 generalize w.heap.size=z at hN hne ⊢
 have hC2:C W.drew:=E.keepC _ _ hC1 (Keeps.drew _ _)
 have hD2:MapIs eI eI W.drew rd D:=hD.of_heap rfl
 have hN2:CellsAt W.drew z _:=hN.of_heap rfl
 have hK2:=hK.trans (Keeps.drew (rd :: B.own) W)
 have hS2:=hS.drew
 have g0:=cells3 hN
 go_region_held3 (fun w'=>w'.cell? ⟨z,0,none⟩=some (.int .i64 v)∧w'.cell? ⟨z,1,none⟩=some (.int .i64 l)∧w'.cell? ⟨z,2,none⟩=some (.int .i64 h)) (first | exact cells3 hN2 | exact cells3 hN3 | exact cells3 hN4 | exact cells3 hN5)
  (first
   | (go_at_call_of 210 (Value.int IntKind.i64 l)
      refine (ih.out W.drew S D l hS2 hw hk hi hC2 hD2 hd Hn.out.2.2.2.2.2.1 Hg.out.1 ?_ ?_).mono ?_
      ·have:=Hlev.out;have:=Hn.out.2.2.2.2.2.2.2.1;rw [lev_node hw Ht.out] at *;dsimp only at *;omega
      ·have:=Hlim.out;simp only [fc] at this;have:=fc_nonneg E.cost k;have:=E.cost;omega
      rintro e W3 ⟨r0,S1,D1,rfl,hS3,hD3,k3,hC3,p0⟩
      have hN3:=hN2.keeps k3 hne
      have hK3:=hK2.trans k3)
   | (go_at_call_of 210 (Value.int IntKind.i64 h)
      refine (ih.out W3 S1 D1 h hS3 p0.wf p0.known p0.inv hC3 hD3 p0.dok (p0.ext.ok Hn.out.2.2.2.2.2.2.1) (E.up _ _ _ p0.ext hw p0.wf Hn.out.2.2.2.2.2.2.1 Hg.out.2) ?_ ?_).mono ?_
      ·rw [p0.ext.lev Hn.out.2.2.2.2.2.2.1,p0.ext.n];have:=Hlev.out;have:=Hn.out.2.2.2.2.2.2.2.2;rw [lev_node hw Ht.out] at *;dsimp only at *;omega
      ·have:=Hlim.out;simp only [fc] at this;have:=p0.next;have:=E.cost;omega
      rintro e W4 ⟨r1,S2,D2,rfl,hS4,hD4,k4,hC4,p1⟩
      have hN4:=hN3.keeps k4 hne
      have hK4:=hK3.trans k4)
   | (go_at_call 211
      refine (E.join W4 S2 f v l h r0 r1 hS4 p1.wf p1.known p1.inv hC4 (p1.ext.node _ _ (p0.ext.node _ _ Ht.out)) (E.up _ _ _ (p0.ext.trans p1.ext) hw p1.wf (.inr (.inr ⟨Hn.out.1,_,Ht.out⟩)) HG.out) (E.mono _ _ _ _ (p0.ext.ok Hn.out.2.2.2.2.2.1) p1.ext p0.wf p1.wf p0.inv p1.inv p0.rel) p1.rel ?_).mono ?_
      ·have:=Hlim.out;simp only [fc] at this;have:=p0.next;have:=p1.next;omega
      rintro e W5 ⟨r,S3,rfl,hS5,k5,x5,w5,kk5,i5,rel5,n5⟩
      have k5':Keeps (rd :: B.own) W4 W5:=k5.mono (fun i hi=>List.mem_cons_of_mem _ hi)
      have hN5:=hN4.keeps k5' hne
      have hK5:=hK4.trans k5'
      have hC5:=E.keepC _ _ hC4 k5'
      have hD5:MapIs eI eI W5 rd D2:=hD4.of_heap (k5.block rd hD4.lt hsep)))
 all_goals
  obtain ⟨o,hrun,hmm⟩:=run_upd (P:=Tryz.prog) Tryz.underlying146 key3 hD5 f r
  simp only [eI] at hrun
  go_wp2
  go_ret
  refine ⟨r,S3,put D2 f r,rfl,hS5.of_heap (fun i hi=>blk_other o (fun e=>hsep (e ▸ hi))),hmm,hK5.trans ((Keeps.blk _ _ _).mono (by simp)),E.keepC _ _ hC5 ((Keeps.blk _ _ _).mono (by simp)),?_⟩
  exact foldPost_step E.mono hw Ht.out p0 p1 x5 w5 kk5 i5 rel5 n5
theorem fold_says211G {B:SB} {rd:Nat} {C:World→Prop} {I:ST→Prop} {R:ST→Int→Int→Prop} {G:ST→Int→Prop} {cj:Int} {p q:Nat} (E:FoldEnvG G B rd 211 (fun v rl rh=>#[.int .i64 v,.int .i64 rl,.int .i64 rh,.pointer (some ⟨p,0,none⟩),.pointer (some ⟨q,0,none⟩)]) C I R cj):∀ k,FoldSaysG G B rd (.func (.func 211) #[] #[.pointer (some ⟨p,0,none⟩),.pointer (some ⟨q,0,none⟩)]) C I R cj k:=by
 intro k
 induction k with
 | zero=>
  intro w S D f hS hw hk hi hC hD hd okf hG hl hlim
  have fl:¬ 2≤f:=fun x=>by have:=(lev_lt_iff hw okf).2 x;omega
  have hs:(get D f).isSome=true:=by
   rcases okf with rfl | rfl | ⟨x,_⟩
   ·exact hd.zero
   ·exact hd.one
   ·exact absurd x fl
  obtain ⟨r,hr⟩:=Option.isSome_iff_exists.1 hs
  exact fold_done E.cost 0 hS hw hk hi hC hD hd hr
 | succ k ih=>
  intro w S D f hS hw hk hi hC hD hd okf hG hl hlim
  cases hg:get D f with
  | some r=>exact fold_done E.cost _ hS hw hk hi hC hD hd hg
  | none=>
   rcases okf with rfl | rfl | ⟨x,⟨v,l,h⟩,ht⟩
   ·have:=hd.zero;rw [hg] at this;cases this
   ·have:=hd.one;rw [hg] at this;cases this
   ·exact fold_step68G E (hide ih) f v l h hS hw hk hi hC hD hd hG hg ht hl hlim
def Hk (k:Nat) (S:ST) (f:Int):Prop:=∀ v:Int,(k:Int)≤v→v<S.n→∀ σ b,S.den f (upd σ v b)=S.den f σ
theorem Hk.var {k:Nat} {S:ST} {f v l h:Int} (hw:WF S) (hh:Hk k S f) (ht:get S.N f=some (v,l,h)):v<k:=by
 apply Classical.byContradiction
 intro hc
 obtain ⟨_,_,v0,v1,_⟩:=hw.node f v l h ht
 exact hangs hw ht fun σ=>by rw [hh v (by omega) v1,hh v (by omega) v1]
theorem Hk.down {k:Nat} {S:ST} {f v l h:Int} (hw:WF S) (hh:Hk k S f) (ht:get S.N f=some (v,l,h)):Hk k S l∧Hk k S h:=by
 have hv:=hh.var hw ht
 obtain ⟨_,_,v0,v1,_,okl,okh,pl,ph⟩:=hw.node f v l h ht
 constructor
 ·intro u u0 u1 σ b
  have h1:=hh u u0 u1 (upd σ v false) b
  rw [den_node hw ht,den_node hw ht,upd_ne _ _ (by omega:v≠u),upd_same,upd_comm _ (by omega:v≠u)] at h1
  simp only [Bool.false_eq_true,if_false] at h1
  rwa [den_upd_above hw okl v0 v1 pl,den_upd_above hw okl v0 v1 pl] at h1
 ·intro u u0 u1 σ b
  have h1:=hh u u0 u1 (upd σ v true) b
  rw [den_node hw ht,den_node hw ht,upd_ne _ _ (by omega:v≠u),upd_same,upd_comm _ (by omega:v≠u)] at h1
  simp only [if_true] at h1
  rwa [den_upd_above hw okh v0 v1 ph,den_upd_above hw okh v0 v1 ph] at h1
theorem Hk.ext {k:Nat} {S S':ST} {f:Int} (x:Ext S S') (hw:WF S) (hw':WF S') (okf:S.ok f) (hh:Hk k S f):Hk k S' f:=fun v v0 v1 σ b=>by
 rw [x.den hw hw' okf,x.den hw hw' okf]
 exact hh v v0 (by rw [←x.n];exact v1) σ b
def SbC (B:SB) (p q bt ct:Nat) (bys:List Int) (w:World):Prop:=CellsAt w p #[.pointer (some ⟨B.b,0,none⟩)]∧CellsAt w q #[.slice (some ⟨bt,0,none⟩) bys.length ct]∧RowIs w bt bys
theorem sb_cells {B:SB} {p q bt ct:Nat} {bys:List Int} {w:World} (h:SbC B p q bt ct bys w) {i:Nat} {u:Int} (hu:bys[i]?=some u) :
  w.cell? ⟨p,0,none⟩=some (.pointer (some ⟨B.b,0,none⟩))∧w.cell? ⟨q,0,none⟩=some (.slice (some ⟨bt,0,none⟩) bys.length ct)∧w.cell? ⟨bt,i,none⟩=some (.int .i64 u):=
 ⟨h.1.cell 0,h.2.1.cell 0,h.2.2.cell hu⟩
def sbV (S:ST) (bys:List Int) (σ:Int→Bool):Int→Bool:=fun v=>S.den ((bys[v.toNat]?).getD 0) σ
def SbR (bys:List Int) (S:ST) (f r:Int):Prop:=S.ok r∧∀ σ:Int→Bool,S.den r σ=S.den f (sbV S bys σ)
theorem sbV_ext {S S':ST} {bys:List Int} (x:Ext S S') (hw:WF S) (hw':WF S') (hb:∀ b∈bys,S.ok b) (σ:Int→Bool):sbV S' bys σ=sbV S bys σ:=by
 funext v
 unfold sbV
 cases hv:bys[v.toNat]? with
 | none=>simp only [Option.getD_none,den_zero]
 | some b=>simp only [Option.getD_some];exact x.den hw hw' (hb b (List.mem_of_getElem? hv)) σ
theorem sbg_join {B:SB} {w:World} {S:ST} {p q bt ct:Nat} {bys:List Int} (f v l h rl rh y:Int) (hS:StoreAt w B S) (hw:WF S) (hk:KOK S) (hC:SbC B p q bt ct bys w) (hp:p∉B.own) (hq:q∉B.own) (hbt:bt∉B.own)
  (hby:∀ b∈bys,S.ok b) (hy:bys[v.toNat]?=some y) (ht:get S.N f=some (v,l,h)) (al:SbR bys S l rl) (ah:SbR bys S h rh) (hlim:S.next+cst S.n<lim) :
  Calls Tryz.prog 211 #[.int .i64 v,.int .i64 rl,.int .i64 rh,.pointer (some ⟨p,0,none⟩),.pointer (some ⟨q,0,none⟩)] w fun e w'=>∃ r S',e=.returned (.int .i64 r)∧StoreAt w' B S'∧Keeps B.own w w'∧Ext S S'∧WF S'∧KOK S'∧SbR bys S' f r∧S'.next≤S.next+cst S.n:=by
 obtain ⟨x1,x2,v0,v1,x5,okl,okh,pll,plh⟩:=hw.node f v l h ht
 have hvl:v<bys.length:=by have:=(List.getElem?_eq_some_iff.1 hy).1;omega
 have okf:S.ok f:=.inr (.inr ⟨x1,_,ht⟩)
 have hyy:=hby y (List.mem_of_getElem? hy)
 have hc:=hide (fun (w:World) (h:StoreAt w B S)=>ite_calls y rh rl h hw hk hyy ah.1 al.1 hlim)
 have Ht:=hide ht
 have Hlim:=hide hlim
 have Hy:=hide hy
 have g0:=sb_cells hC hy
 have hC2:SbC B p q bt ct bys w.drew:=⟨hC.1.of_heap rfl,hC.2.1.of_heap rfl,hC.2.2.of_heap rfl⟩
 have hS2:=hS.drew
 clear ht hlim x1 x2 x5 pll plh hy hyy
 go_enter Tryz.func211,Tryz.ntmps211
 go_wp2
 go_region_held3 (fun w'=>w'.cell? ⟨p,0,none⟩=some (.pointer (some ⟨B.b,0,none⟩))∧w'.cell? ⟨q,0,none⟩=some (.slice (some ⟨bt,0,none⟩) bys.length ct)∧w'.cell? ⟨bt,v.toNat,none⟩=some (.int .i64 y)) (first | exact sb_cells hC2 Hy.out | exact sb_cells hC3 Hy.out)
  (first
   | (go_at_call 141
      refine (hc.out _ hS2).mono ?_
      rintro e W3 ⟨r,S2,rfl,hS4,k4,p2⟩
      have hC3:SbC B p q bt ct bys W3:=⟨hC2.1.keeps k4 hp,hC2.2.1.keeps k4 hq,hC2.2.2.of_heap (k4.block _ hC2.2.2.lt hbt)⟩))
 all_goals
  go_wp2
  go_ret
  refine ⟨r,S2,rfl,hS4,(Keeps.drew _ _).trans k4,p2.ext,p2.wf,p2.known,⟨p2.ok,fun σ=>?_⟩,p2.next⟩
  rw [p2.den,ah.2,al.2,p2.ext.den hw p2.wf okf,sbV_ext p2.ext hw p2.wf hby,den_node hw Ht.out]
  simp only [sbV,Hy.out,Option.getD_some]
theorem sbg_env (B:SB) (rd p q bt ct n k:Nat) (bys:List Int) (hr:rd∉B.own) (hp:p∉rd :: B.own) (hq:q∉rd :: B.own) (hb:bt∉rd :: B.own) (hlen:k≤bys.length) :
  FoldEnvG (Hk k) B rd 211 (fun v rl rh=>#[.int .i64 v,.int .i64 rl,.int .i64 rh,.pointer (some ⟨p,0,none⟩),.pointer (some ⟨q,0,none⟩)]) (SbC B p q bt ct bys) (fun S=>S.n=n∧∀ b∈bys,S.ok b) (SbR bys) (cst n) where
 sep:=hr
 keepC w w' h k:=⟨h.1.keeps k hp,h.2.1.keeps k hq,h.2.2.of_heap (k.block _ h.2.2.lt hb)⟩
 mono S S' f r okf x hw hw' hi _ h:=⟨x.ok h.1,fun σ=>by rw [x.den hw hw' h.1,h.2,x.den hw hw' okf,sbV_ext x hw hw' hi.2]⟩
 cost:=cst_nonneg n
 down S f v l h hw hg ht:=hg.down hw ht
 up S S' f x hw hw' okf hg:=hg.ext x hw hw' okf
 join w S f v l h rl rh hS hw hk hi hC ht hG al ah hlim:=by
  obtain ⟨hi,hby⟩:=hi
  subst hi
  obtain ⟨x1,x2,v0,v1,_⟩:=hw.node f v l h ht
  have hv:=hG.var hw ht
  have hl2:v.toNat<bys.length:=by omega
  exact (sbg_join f v l h rl rh _ hS hw hk hC (fun x=>hp (List.mem_cons_of_mem _ x)) (fun x=>hq (List.mem_cons_of_mem _ x)) (fun x=>hb (List.mem_cons_of_mem _ x)) hby (List.getElem?_eq_getElem hl2) ht al ah hlim).mono fun e w' ⟨r,S',a1,a2,a3,a4,a5,a6,a7,a8⟩=>⟨r,S',a1,a2,a3,a4,a5,a6,⟨a4.n,fun b hb=>a4.ok (hby b hb)⟩,a7,a8⟩
attribute [local go_sem] ins_first ins_second
theorem substG_calls {B:SB} {w:World} {S:ST} (f:Int) (bt ct:Nat) (k:Nat) (bys:List Int) (hS:StoreAt w B S) (hw:WF S) (hk:KOK S) (okf:S.ok f) (hrow:RowIs w bt bys) (hbt:bt∉B.own) (hlen:k≤bys.length) (hby:∀ b∈bys,S.ok b) (hG:Hk k S f) (hlim:S.next+fc (cst S.n) S.n<lim) :
  Calls Tryz.prog 146 #[.pointer (some ⟨B.b,0,none⟩),.int .i64 f,.slice (some ⟨bt,0,none⟩) bys.length ct] w (RelGives B w S (SbR bys) f (fc (cst S.n) S.n)):=by
 have hmm:=@run_makeMap Tryz.prog
 have hbl:=hrow.lt
 have E:=sbg_env B (w.heap.size+1+1) w.heap.size (w.heap.size+1) bt ct S.n k bys (hS.fresh (by omega)) (not_cons (by omega) (hS.fresh (by omega))) (not_cons (by omega) (hS.fresh (by omega))) (not_cons (by omega) hbt) hlen
 have hc:=hide (fold_says211G E S.n)
 have Hlim:=hide hlim
 have Hlen:=hide hlen
 have Hby:=hide hby
 have HG:=hide hG
 clear hlim E hlen hbl hby hG
 go_enter Tryz.func146,Tryz.ntmps146
 go_wp2_with fail
 have s1:=size_alloc w (.cells #[.pointer (some ⟨B.b,0,none⟩)] 135)
 have s2:=size_alloc (w.alloc (.cells #[.pointer (some ⟨B.b,0,none⟩)] 135)) (.cells #[.slice (some ⟨bt,0,none⟩) bys.length ct] 40)
 have a1:=CellsAt.new w #[.pointer (some ⟨B.b,0,none⟩)] 135
 have a2:=CellsAt.new (w.alloc (.cells #[.pointer (some ⟨B.b,0,none⟩)] 135)) #[.slice (some ⟨bt,0,none⟩) bys.length ct] 40
 have a3:=ins_is ((w.alloc (.cells #[.pointer (some ⟨B.b,0,none⟩)] 135)).alloc (.cells #[.slice (some ⟨bt,0,none⟩) bys.length ct] 40)) 0 0 1 1 (by decide)
 have k1:=Keeps.alloc [] w (.cells #[.pointer (some ⟨B.b,0,none⟩)] 135)
 have k2:=Keeps.alloc [] (w.alloc (.cells #[.pointer (some ⟨B.b,0,none⟩)] 135)) (.cells #[.slice (some ⟨bt,0,none⟩) bys.length ct] 40)
 have k3:=Keeps.alloc [] ((w.alloc (.cells #[.pointer (some ⟨B.b,0,none⟩)] 135)).alloc (.cells #[.slice (some ⟨bt,0,none⟩) bys.length ct] 40)) (.map #[{ key:=.int .i64 0,val:=.int .i64 0,born:=0 },{ key:=.int .i64 1,val:=.int .i64 1,born:=1 }] 2)
 have b1:=(a1.keeps k2 (by simp)).keeps k3 (by simp)
 have b2:=a2.keeps k3 (by simp)
 rw [s1] at b2 s2
 rw [s2] at a3
 have kk:=(k1.trans k2).trans k3
 have hS3:=hS.keeps kk (by simp)
 have hrow3:=hrow.of_heap (kk.block _ hrow.lt (by simp))
 refine (hc.out _ S [(0,0),(1,1)] f hS3 hw hk ⟨rfl,Hby.out⟩ ⟨b1,b2,hrow3⟩ a3 ⟨?_,rfl,rfl⟩ okf HG.out ?_ Hlim.out).mono ?_
 ·intro g r hg
  have hm:=get_some_mem hg
  simp only [List.mem_cons,Prod.mk.injEq,List.not_mem_nil,or_false] at hm
  rcases hm with ⟨rfl,rfl⟩ | ⟨rfl,rfl⟩
  ·exact ⟨ok_zero S,ok_zero S,fun σ=>by rw [den_zero,den_zero]⟩
  ·exact ⟨ok_one S,ok_one S,fun σ=>by rw [den_one,den_one]⟩
 ·have:=(lev_range hw okf).1;omega
 rintro e w' ⟨r,S',D',rfl,hs,hd,hkp,hC',p⟩
 go_wp2
 go_ret
 refine ⟨r,S',rfl,hs,(kk.mono (by simp)).trans_new hkp ?_,p.ext,p.wf,p.known,p.rel,p.next⟩
 intro i hi
 rcases List.mem_cons.1 hi with e | x
 ·exact .inr (by omega)
 ·exact .inl x
end
section
open Go.RowKit
theorem bitN (a v:Nat):bitB (a:Int) (v:Int)=a.testBit v:=by
 unfold bitB
 rw [Nat.testBit_eq_decide_div_mod_eq,Int.toNat_natCast]
 congr 1
 rw [eq_iff_iff]
 constructor
 ·intro h;have:((a / 2 ^ v % 2:Nat):Int)=1:=by push_cast;exact h
  omega
 ·intro h;have:((a / 2 ^ v % 2:Nat):Int)=1:=by omega
  push_cast at this;exact this
def asgs:Nat→Nat→List Nat
 | 0,_=>[0]
 | k+1,i=>asgs k (i+1)++(asgs k (i+1)).map fun y=>y+2 ^ i
def ST.tl (S:ST):Nat→Nat→Int→Nat→List Nat
 | 0,_,f,a=>if f=0 then [] else [a]
 | k+1,i,f,a=>if f=0 then [] else S.tl k (i+1) (S.cof f i).1 a++S.tl k (i+1) (S.cof f i).2 (a+2 ^ i)
theorem asgs_mem:∀ {k i y:Nat},y∈asgs k i→∃ z,z<2 ^ k∧y=z * 2 ^ i
 | 0,i,y,h=>⟨0,by simp,by simpa [asgs] using h⟩
 | k+1,i,y,h=>by
  simp only [asgs,List.mem_append,List.mem_map] at h
  rcases h with h | ⟨x,h,rfl⟩
  ·obtain ⟨z,hz,rfl⟩:=asgs_mem h
   exact ⟨2 * z,by rw [Nat.pow_succ];omega,by rw [Nat.pow_succ,Nat.mul_comm (2 ^ i) 2,←Nat.mul_assoc,Nat.mul_comm z 2]⟩
  ·obtain ⟨z,hz,rfl⟩:=asgs_mem h
   exact ⟨2 * z+1,by rw [Nat.pow_succ];omega,by rw [Nat.pow_succ,Nat.mul_comm (2 ^ i) 2,←Nat.mul_assoc,Nat.mul_comm z 2,Nat.add_mul,Nat.one_mul]⟩
theorem bit_shift (x q v:Nat) (h:q≤v):(x * 2 ^ q).testBit v=x.testBit (v - q):=by
 rw [Nat.testBit_mul_two_pow];simp [h]
theorem bit_over (z d q n v:Nat) (hd:d<2 ^ n):(z * 2 ^ (q+n)+d * 2 ^ q).testBit v=if v<q then false else if v<q+n then d.testBit (v - q) else (z * 2 ^ (q+n)).testBit v:=by
 have e:z * 2 ^ (q+n)+d * 2 ^ q=(2 ^ n * z+d) * 2 ^ q:=by rw [Nat.pow_add,Nat.add_mul];congr 1;rw [Nat.mul_comm (2 ^ q),←Nat.mul_assoc,Nat.mul_comm z]
 by_cases h:v<q
 ·rw [if_pos h,e,Nat.testBit_mul_two_pow];simp;omega
 ·rw [if_neg h,e,bit_shift _ _ _ (by omega),Nat.testBit_two_pow_mul_add _ hd]
  by_cases h2:v<q+n
  ·rw [if_pos h2,if_pos (by omega)]
  ·rw [if_neg h2,if_neg (by omega),bit_shift _ _ _ (by omega)];congr 1;omega
def Idn (S:ST):Prop:=∀ v:Int,0≤v→v<S.n→S.pl v=v
theorem Hk.cof {k:Nat} {S:ST} {f:Int} (hw:WF S) (hh:Hk k S f) (u:Int):Hk k S (S.cof f u).1∧Hk k S (S.cof f u).2:=by
 unfold ST.cof
 split
 ·rename_i t ht
  obtain ⟨v,l,h⟩:=t
  split
  ·exact hh.down hw ht
  ·exact ⟨hh,hh⟩
 ·exact ⟨hh,hh⟩
theorem tl_spec {S:ST} (hw:WF S) (hid:Idn S):∀ (k i:Nat) (f:Int) (a:Nat),S.ok f→(i:Int)≤S.lev f→Hk (i+k) S f→i+k≤S.n→S.tl k i f a=((asgs k i).filter fun y=>S.den f (asg (y:Nat))).map fun y=>a+y
 | 0,i,f,a,hf,hl,hh,hn=>by
  have hc:f=0∨f=1:=by
   rcases hf with h | h | ⟨h2,⟨v,l,h⟩,ht⟩
   ·exact .inl h
   ·exact .inr h
   ·exfalso
    have hv:=hh.var hw ht
    obtain ⟨_,_,v0,v1,_⟩:=hw.node f v l h ht
    rw [lev_node hw ht] at hl
    have:=hid v v0 v1
    simp only at hl
    omega
  rcases hc with rfl | rfl
  ·simp [ST.tl,asgs,den_zero]
  ·simp [ST.tl,asgs,den_one]
 | k+1,i,f,a,hf,hl,hh,hn=>by
  have hi:(i:Int)<S.n:=by omega
  have hpi:=hid i (by omega) hi
  obtain ⟨ok0,ok1,l0,l1,_,_,hden⟩:=cof_spec hw hf (u:=i) (by omega) hi (by rw [hpi];exact hl)
  rw [hpi] at l0 l1
  obtain ⟨h0,h1⟩:=hh.cof hw (i:Int)
  have e0:=tl_spec hw hid k (i+1) (S.cof f i).1 a ok0 (by push_cast;omega) (by rw [show i+1+k=i+(k+1) from by omega];exact h0) (by omega)
  have e1:=tl_spec hw hid k (i+1) (S.cof f i).2 (a+2 ^ i) ok1 (by push_cast;omega) (by rw [show i+1+k=i+(k+1) from by omega];exact h1) (by omega)
  by_cases hf0:f=0
  ·subst hf0
   simp [ST.tl,den_zero]
  ·simp only [ST.tl,hf0,if_false]
   rw [e0,e1]
   simp only [asgs,List.filter_append,List.map_append,List.filter_map,List.map_map]
   congr 1
   ·congr 1
    refine List.filter_congr fun y hy=>?_
    obtain ⟨z,_,rfl⟩:=asgs_mem hy
    have hb:asg ((z * 2 ^ (i+1):Nat):Int) (i:Int)=false:=by
     show bitB _ _=_
     rw [bitN,Nat.testBit_mul_two_pow];simp;omega
    rw [hden,hb];rfl
   ·have e:(fun y=>a+2 ^ i+y)=(fun y=>a+y) ∘ fun y=>y+2 ^ i:=by funext y;simp;omega
    rw [e]
    congr 1
    refine List.filter_congr fun y hy=>?_
    obtain ⟨z,_,rfl⟩:=asgs_mem hy
    have hv:∀ v:Nat,bitB ((z * 2 ^ (i+1)+2 ^ i:Nat):Int) (v:Int)=if v<i then false else if v<i+1 then (1:Nat).testBit (v - i) else (z * 2 ^ (i+1)).testBit v:=fun v=>by
     have:=bit_over z 1 i 1 v (by decide)
     rw [Nat.one_mul] at this
     rw [bitN,this]
    simp only [Function.comp_apply]
    have hb:asg ((z * 2 ^ (i+1)+2 ^ i:Nat):Int) (i:Int)=true:=by
     show bitB _ _=_
     rw [hv];simp
    rw [hden,hb,if_pos rfl]
    refine den_congr hw ok1 _ _ fun v v0 v1 hlv=>?_
    obtain ⟨j,rfl⟩:=Int.eq_ofNat_of_zero_le v0
    rw [hid _ v0 v1] at hlv
    show bitB _ _=bitB _ _
    rw [hv,bitN,if_neg (by omega),if_neg (by omega)]
def numA (σ:Int→Bool) (p:Nat):Nat:=4 * (σ (3 * p:Nat)).toNat+2 * (σ (3 * p+1:Nat)).toNat+(σ (3 * p+2:Nat)).toNat
def tupF (σ:Int→Bool):Nat→Nat→List Nat
 | _,0=>[]
 | p,c+1=>numA σ p :: tupF σ (p+1) c
def alls:Nat→List (List Nat)
 | 0=>[[]]
 | c+1=>(List.range 8).flatMap fun d=>(alls c).map (d :: ·)
theorem tupF_congr {σ τ:Int→Bool}:∀ (c p:Nat),(∀ v:Nat,3 * p≤v→v<3 * (p+c)→σ v=τ v)→tupF σ p c=tupF τ p c
 | 0,_,_=>rfl
 | c+1,p,h=>by
  simp only [tupF,numA]
  rw [h (3 * p) (by omega) (by omega),h (3 * p+1) (by omega) (by omega),h (3 * p+2) (by omega) (by omega),tupF_congr c (p+1) fun v h1 h2=>h v (by omega) (by omega)]
theorem asgs_tups:∀ (c p:Nat),(asgs (3 * c) (3 * p)).map (fun y=>tupF (asg (y:Nat)) p c)=alls c
 | 0,p=>by simp [asgs,tupF,alls]
 | c+1,p=>by
  have ih:=asgs_tups c (p+1)
  have e:3 * (c+1)=3 * c+1+1+1:=by omega
  have e3:3 * p+1+1+1=3 * (p+1):=by omega
  have key:∀ (d r:Nat),r<8→d=4 * (r.testBit 0).toNat+2 * (r.testBit 1).toNat+(r.testBit 2).toNat→∀ (g:Nat→Nat),(∀ y,g y=y+r * 2 ^ (3 * p))→(asgs (3 * c) (3 * (p+1))).map ((fun y=>tupF (asg (y:Nat)) p (c+1)) ∘ g)=(alls c).map (d :: ·):=by
   intro d r hr hd g hg
   rw [←ih,List.map_map]
   refine List.map_congr_left fun y hy=>?_
   obtain ⟨z,_,rfl⟩:=asgs_mem hy
   have hv:∀ v:Nat,asg ((g (z * 2 ^ (3 * (p+1))):Nat):Int) (v:Int)=if v<3 * p then false else if v<3 * p+3 then r.testBit (v - 3 * p) else asg ((z * 2 ^ (3 * (p+1)):Nat):Int) (v:Int):=fun v=>by
    show bitB _ _=if _ then _ else if _ then _ else bitB _ _
    rw [bitN,bitN,hg,show 3 * (p+1)=3 * p+3 from by omega]
    exact bit_over z r (3 * p) 3 v (by omega)
   simp only [Function.comp_apply,tupF]
   congr 1
   ·unfold numA
    rw [hv,hv,hv,hd]
    simp [show ¬ 3 * p+1<3 * p by omega,show ¬ 3 * p+2<3 * p by omega,show 3 * p+1 - 3 * p=1 by omega,show 3 * p+2 - 3 * p=2 by omega]
   ·refine tupF_congr c (p+1) fun v h1 h2=>?_
    rw [hv,if_neg (by omega),if_neg (by omega)]
  rw [e]
  simp only [asgs,e3,List.map_append,List.map_map,List.append_assoc]
  have hp1:2 ^ (3 * p+1)=2 * 2 ^ (3 * p):=by rw [Nat.pow_succ,Nat.mul_comm]
  have hp2:2 ^ (3 * p+1+1)=4 * 2 ^ (3 * p):=by rw [Nat.pow_succ,Nat.pow_succ];omega
  have hL:alls (c+1)=(alls c).map (0 :: ·)++((alls c).map (1 :: ·)++((alls c).map (2 :: ·)++((alls c).map (3 :: ·)++((alls c).map (4 :: ·)++((alls c).map (5 :: ·)++((alls c).map (6 :: ·)++(alls c).map (7 :: ·))))))):=by
   simp [alls,List.range_succ]
  rw [hL]
  have k0:=key 0 0 (by omega) (by decide) id (fun y=>by simp)
  rw [Function.comp_id] at k0
  rw [k0]
  have K:=fun (d r:Nat) (h1:r<8) (h2) (g:Nat→Nat) (hg)=>key d r h1 h2 g hg
  congr 1
  rw [K 1 4 (by omega) (by decide) _ (fun y=>by rw [hp2])]
  congr 1
  rw [K 2 2 (by omega) (by decide) _ (fun y=>by rw [hp1])]
  congr 1
  rw [show ((fun y=>tupF (asg ((y:Nat):Int)) p (c+1)) ∘ (fun y=>y+2 ^ (3 * p+1)) ∘ fun y=>y+2 ^ (3 * p+1+1))=(fun y=>tupF (asg ((y:Nat):Int)) p (c+1)) ∘ fun y=>y+6 * 2 ^ (3 * p) from by funext y;simp only [Function.comp_apply];rw [hp1,hp2];congr 3;omega]
  rw [K 3 6 (by omega) (by decide) _ (fun y=>rfl)]
  congr 1
  rw [K 4 1 (by omega) (by decide) _ (fun y=>by omega)]
  congr 1
  rw [show ((fun y=>tupF (asg ((y:Nat):Int)) p (c+1)) ∘ (fun y=>y+2 ^ (3 * p)) ∘ fun y=>y+2 ^ (3 * p+1+1))=(fun y=>tupF (asg ((y:Nat):Int)) p (c+1)) ∘ fun y=>y+5 * 2 ^ (3 * p) from by funext y;simp only [Function.comp_apply];rw [hp2];congr 3;omega]
  rw [K 5 5 (by omega) (by decide) _ (fun y=>rfl)]
  congr 1
  rw [show ((fun y=>tupF (asg ((y:Nat):Int)) p (c+1)) ∘ (fun y=>y+2 ^ (3 * p)) ∘ fun y=>y+2 ^ (3 * p+1))=(fun y=>tupF (asg ((y:Nat):Int)) p (c+1)) ∘ fun y=>y+3 * 2 ^ (3 * p) from by funext y;simp only [Function.comp_apply];rw [hp1];congr 3;omega]
  rw [K 6 3 (by omega) (by decide) _ (fun y=>rfl)]
  congr 1
  rw [show ((fun y=>tupF (asg ((y:Nat):Int)) p (c+1)) ∘ (fun y=>y+2 ^ (3 * p)) ∘ (fun y=>y+2 ^ (3 * p+1)) ∘ fun y=>y+2 ^ (3 * p+1+1))=(fun y=>tupF (asg ((y:Nat):Int)) p (c+1)) ∘ fun y=>y+7 * 2 ^ (3 * p) from by funext y;simp only [Function.comp_apply];rw [hp1,hp2];congr 3;omega]
  rw [K 7 7 (by omega) (by decide) _ (fun y=>rfl)]
end
end Go.Proofs.YtgjomknpjigkhaaGreatDoor
