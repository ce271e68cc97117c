import Derived.Test.YtgjomknpjigkhaaGreatDoorU06
import Derived.Laws.Rows
namespace Go.Proofs.YtgjomknpjigkhaaGreatDoor
set_option maxRecDepth 100000
set_option maxHeartbeats 4000000
section
open Go.RowKit
def iQK (k:ByteArray) (p:Sg→Bool):Prop:=∀ g,((eQA g).toList == k.toList)=p g
theorem iQE {k:ByteArray} {p:Sg→Bool} (h:∀ g,decide (eQA g=k)=p g):iQK k p:=fun g=>by
 rw [←h g,Bool.eq_iff_iff,str_eq,decide_eq_true_iff]
theorem tQH:iQK ⟨#[78,65,77,69]⟩ fQC:=iQE fun g=>by cases g <;> first | rfl | decide
theorem kp_int:iQK ⟨#[73,78,84]⟩ isIntG:=iQE fun g=>by cases g <;> first | rfl | decide
theorem kp_var:iQK ⟨#[86,65,82]⟩ zQK:=iQE fun g=>by cases g <;> first | rfl | decide
theorem kp_dom:iQK ⟨#[100,111,109]⟩ isDomG:=iQE fun g=>by cases g <;> first | rfl | decide
theorem kp_rel:iQK ⟨#[114,101,108]⟩ isRelG:=iQE fun g=>by cases g <;> first | rfl | decide
theorem kp_lp:iQK ⟨#[40]⟩ isLpG:=iQE fun g=>by cases g <;> first | rfl | decide
theorem kp_rp:iQK ⟨#[41]⟩ isRpG:=iQE fun g=>by cases g <;> first | rfl | decide
theorem kp_comma:iQK ⟨#[44]⟩ uQI:=iQE fun g=>by cases g <;> first | rfl | decide
theorem kp_semi:iQK ⟨#[59]⟩ isSemiG:=iQE fun g=>by cases g <;> first | rfl | decide
theorem kp_dot:iQK ⟨#[46]⟩ isDotG:=iQE fun g=>by cases g <;> first | rfl | decide
theorem kp_bang:iQK ⟨#[33]⟩ isBangG:=iQE fun g=>by cases g <;> first | rfl | decide
theorem kp_arrow:iQK ⟨#[58,45]⟩ isArrowG:=iQE fun g=>by cases g <;> first | rfl | decide
theorem kp_fin:iQK ⟨#[101,110,100]⟩ isFinG:=iQE fun g=>by cases g <;> first | rfl | decide
def tokC (t:Tn):List Value:=[.string (eQA t.g),.string (txt t.g),.int .i64 t.line]
def tokV (t:Tn):Value:=.agg #[.string (eQA t.g),.string (txt t.g),.int .i64 t.line]
def hQD (ts:List Tn):List Value:=ts.flatMap tokC
theorem kQJ (a b:List Tn):hQD (a++b)=hQD a++hQD b:=by simp [hQD]
def PTok (w:World) (g o:Nat) (us:List Tn):Prop:=∃ cs,cQA w g cs∧∀ (j:Nat) (t:Tn),us[j]?=some t→cs[o+j * 3]?=some (.string (eQA t.g))∧cs[o+j * 3+1]?=some (.string (txt t.g))∧cs[o+j * 3+2]?=some (.int .i64 t.line)
theorem PTok.keeps {w w':World} {g o:Nat} {us:List Tn} {T:List Nat} (h:PTok w g o us) (k:aQA T w w') (hg:g∉T):PTok w' g o us:=by
 obtain ⟨cs,h1,h2⟩:=h;exact ⟨cs,h1.keeps k hg,h2⟩
theorem PTok.tail {w:World} {g o:Nat} {t:Tn} {us:List Tn} (h:PTok w g o (t :: us)):PTok w g (o+3) us:=by
 obtain ⟨cs,h1,h2⟩:=h;refine ⟨cs,h1,fun j u hu=>?_⟩;have:=h2 (j+1) u (by simpa using hu);rw [show o+(j+1) * 3=o+3+j * 3 by omega] at this;exact this
theorem PTok.head {w:World} {g o:Nat} {t:Tn} {us:List Tn} (h:PTok w g o (t :: us)):w.cell? ⟨g,o,none⟩=some (.string (eQA t.g))∧w.cell? ⟨g,o+1,none⟩=some (.string (txt t.g))∧w.cell? ⟨g,o+2,none⟩=some (.int .i64 t.line):=by
 obtain ⟨cs,h1,h2⟩:=h;obtain ⟨a,b,c⟩:=h2 0 t rfl;exact ⟨by rw [h1.cell];exact a,by rw [h1.cell];exact b,by rw [h1.cell];exact c⟩
def PAt (w:World) (b g:Nat) (us:List Tn):Prop:=∃ o c,cQA w b #[.slice (some ⟨g,o,none⟩) us.length c]∧us.length≤c∧PTok w g o us∧g≠b
theorem PAt.keeps {w w':World} {b g:Nat} {us:List Tn} {T:List Nat} (h:PAt w b g us) (k:aQA T w w') (hb:b∉T) (hg:g∉T):PAt w' b g us:=by
 obtain ⟨o,c,h1,h2,h3,h4⟩:=h;exact ⟨o,c,h1.keeps k hb,h2,h3.keeps k hg,h4⟩
theorem PAt.lt {w:World} {b g:Nat} {us:List Tn} (h:PAt w b g us):b<w.heap.size∧g<w.heap.size:=by
 obtain ⟨o,c,h1,h2,⟨cs,h3,_⟩,h4⟩:=h;exact ⟨h1.lt,h3.lt⟩
theorem sees_calls {w:World} {b g:Nat} {k:ByteArray} {p:Sg→Bool} (hk:iQK k p) {us:List Tn} (h:PAt w b g us) (hne:us≠[]) (hl:us.length≤1000000):Calls Tryz.prog 198 #[.pointer (some ⟨b,0,none⟩),.string k] w fun e w'=>e=.returned (.bool (sees p us))∧w' = w:=by
 cases us with
 | nil=>exact absurd rfl hne
 | cons t us=>
  obtain ⟨o,c,hb,hc,ht,hg⟩:=h;obtain ⟨c0,c1,c2⟩:=ht.head;have hcell:=hb.cell 0;have hlI:(0:Int)<((t :: us).length:Nat):=by simp
  have hs:sees p (t :: us)=((eQA t.g).toList == k.toList):=(hk t.g).symm;rw [hs];generalize (t :: us).length=n at *;clear hs hb ht;go_enter Tryz.func198,Tryz.ntmps198
  go_wp2_with fail
  go_ret
  exact ⟨rfl,rfl⟩
def TakeTo (b g:Nat) (r:Except Nat (Tn×List Tn)) (e:Ending) (w':World):Prop:=match r with
 | .ok (t,us)=>e=.returned (tokV t)∧PAt w' b g us
 | .error l=>e=gQC 5 l
theorem size_set (w:World) (a:Addr) (v:Value):(w.setCell a v).heap.size=w.heap.size:=by simp [World.setCell]
theorem yQD {fn:Func} {p:Tmp} {ty:TypeId} (h:fn.results=#[.cell p ty]) (tmps:Array Value) {w:World} {g:Nat} {cs:Array Value} {fs:Array Field} (hc:cQA w g cs) (hu:Tryz.prog.underlying ty=some (.struct fs)) (hi:(Tryz.prog.info? ty).map (·.size)=some cs.size) (hp:tmps.getD p undef=.pointer (some ⟨g,0,none⟩)):(results fn tmps).run Tryz.prog w=.ok (.agg cs) w:=by
 obtain ⟨t,ht⟩:=hc;exact results_cell_row h tmps w g t cs (0,0) _ hp ht hu rfl hi
theorem size129:(Tryz.prog.info? 129).map (·.size)=some 3:=by kernel_rfl
theorem tQA {w:World} {b g:Nat} {k:ByteArray} {p:Sg→Bool} (hk:iQK k p) (hf:iQG p) {us:List Tn} (h:PAt w b g us) (he:bQC us) (hl:us.length≤1000000):Calls Tryz.prog 250 #[.pointer (some ⟨b,0,none⟩),.string k] w fun e w'=>TakeTo b g (cQC p us) e w'∧aQA [b] w w':=by
 cases us with
 | nil=>obtain ⟨_,_,h⟩:=he.cons;cases h
 | cons t us=>
  obtain ⟨o,c,hb,hc,ht,hg⟩:=h;obtain ⟨c0,c1,c2⟩:=ht.head;have hs:=hk t.g;have k1:=aQA.alloc [] w (.cells #[.string ⟨#[]⟩,.string ⟨#[]⟩,.int .i64 0] 129);have hb1:=hb.keeps k1 (by simp);have ht1:=ht.keeps k1 (by simp);obtain ⟨d0,d1,d2⟩:=ht1.head;have k2:=k1.trans (aQA.alloc [] (w.alloc (.cells #[.string ⟨#[]⟩,.string ⟨#[]⟩,.int .i64 0] 129)) (.cells #[.string (eQA t.g),.string (txt t.g),.int .i64 t.line] 129));have hb2:=hb.keeps k2 (by simp);have f2:=hb2.frozen 0;have hcell1:=hb1.cell 0;have hcell2:=hb2.cell 0;have hlI:(0:Int)<((t :: us).length:Nat):=by simp
  have hl1:(1:Int)≤((t :: us).length:Nat):=by simp;omega
  have hnl:us.length=(t :: us).length - 1:=by simp
  generalize hn:(t :: us).length=n at *;cases hp:p t.g with
  | false=>
   rw [hp] at hs;have hg5:=hide (fun w=>fQE (w:=w) 5 t.line);have hr:cQC p (t :: us)=.error t.line:=by simp only [cQC];rw [if_neg (by rw [hp];decide)]
   rw [hr];have k3:=hide (k2.mono (T':=[b]) (by simp));clear k2 k1 hr ht ht1 hb hb1 hb2 hn he hnl c0 c1 c2 hk;go_enter Tryz.func250,Tryz.ntmps250
   go_wp2_with fail
   refine (hg5.out _).mono ?_;rintro e w1 ⟨rfl,rfl⟩;exact ⟨rfl,rfl,k3.out⟩
  | true=>
   rw [hp] at hs;have hr:cQC p (t :: us)=.ok (t,us):=by simp only [cQC];rw [if_pos hp]
   rw [hr];have hblt:=hb.lt;have hu2:us≠[]:=by obtain ⟨_,_,h⟩:=(he.tail (hf.no hp)).cons;rw [h];simp
   have hn2:2≤n:=by rw [←hn];cases us with | nil=>exact absurd rfl hu2 | cons _ _=>simp
   have hc1:¬ c=1:=(by omega);have hglt:g<w.heap.size:=by obtain ⟨cs,h,_⟩:=ht;exact h.lt
   have Hb:=hide hb;have Ht:=hide ht;have Hnl:=hide hnl;clear ht ht1 hb hb1 hb2 hn he hnl c0 c1 c2 hk k1 k2 hr hp;go_enter Tryz.func250,Tryz.ntmps250
   go_wp2_with fail
   have hA:=((cQA.new (w.setCell ⟨b,0,none⟩ (.slice (some ⟨g,o+3,none⟩) (n - 1) (c - 1))) #[.string (eQA t.g),.string (txt t.g),.int .i64 t.line] 129).keeps (aQA.alloc [] _ (.cells #[.string (eQA t.g),.string (txt t.g),.int .i64 t.line] 129)) (by simp));rw [size_set] at hA;have kF:=(aQA.setCell w ⟨b,0,none⟩ (.slice (some ⟨g,o+3,none⟩) (n - 1) (c - 1))).trans (((aQA.alloc [b] (w.setCell ⟨b,0,none⟩ (.slice (some ⟨g,o+3,none⟩) (n - 1) (c - 1))) (.cells #[.string (eQA t.g),.string (txt t.g),.int .i64 t.line] 129))).trans (aQA.alloc [b] ((w.setCell ⟨b,0,none⟩ (.slice (some ⟨g,o+3,none⟩) (n - 1) (c - 1))).alloc (.cells #[.string (eQA t.g),.string (txt t.g),.int .i64 t.line] 129)) (.cells #[.string (eQA t.g),.string (txt t.g),.int .i64 t.line] 129)));have hb3:=((Hb.out.setCell 0 (.slice (some ⟨g,o+3,none⟩) (n - 1) (c - 1))).keeps (aQA.alloc [] _ (.cells #[.string (eQA t.g),.string (txt t.g),.int .i64 t.line] 129)) (by simp)).keeps (aQA.alloc [] _ (.cells #[.string (eQA t.g),.string (txt t.g),.int .i64 t.line] 129)) (by simp);refine bodyPost_ret (v:=tokV t) (yQD (p:=4) (ty:=129) (by kernel_rfl) _ hA Tryz.underlying129 size129 rfl) rfl ⟨⟨rfl,o+3,c - 1,by rw [Hnl.out];exact hb3,by rw [Hnl.out];omega,Ht.out.tail.keeps kF (by simp;exact hg),hg⟩,kF⟩
end
section
open Go.RowKit
structure Res3 (w:World) (r:Nat) (a0 a1 a2 x0 x1 x2:Value):Prop where
 c0:w.cell? ⟨r,0,none⟩=some a0
 f0:w.frozen? ⟨r,0,none⟩=false
 c1:(w.setCell ⟨r,0,none⟩ x0).cell? ⟨r,1,none⟩=some a1
 f1:(w.setCell ⟨r,0,none⟩ x0).frozen? ⟨r,1,none⟩=false
 c2:((w.setCell ⟨r,0,none⟩ x0).setCell ⟨r,1,none⟩ x1).cell? ⟨r,2,none⟩=some a2
 f2:((w.setCell ⟨r,0,none⟩ x0).setCell ⟨r,1,none⟩ x1).frozen? ⟨r,2,none⟩=false
 at_:cQA (((w.setCell ⟨r,0,none⟩ x0).setCell ⟨r,1,none⟩ x1).setCell ⟨r,2,none⟩ x2) r #[x0,x1,x2]
 keep:aQA [r] w (((w.setCell ⟨r,0,none⟩ x0).setCell ⟨r,1,none⟩ x1).setCell ⟨r,2,none⟩ x2)
theorem res3 {w:World} {r:Nat} {a0 a1 a2:Value} (h:cQA w r #[a0,a1,a2]) (x0 x1 x2:Value):Res3 w r a0 a1 a2 x0 x1 x2:=by
 have h1:=h.setCell 0 x0;have h2:=h1.setCell 1 x1;have h3:=h2.setCell 2 x2;exact ⟨h.cell 0,h.frozen 0,h1.cell 1,h1.frozen 1,h2.cell 2,h2.frozen 2,h3,(((aQA.setCell w ⟨r,0,none⟩ x0).trans (aQA.setCell (w.setCell ⟨r,0,none⟩ x0) ⟨r,1,none⟩ x1)).trans (aQA.setCell ((w.setCell ⟨r,0,none⟩ x0).setCell ⟨r,1,none⟩ x1) ⟨r,2,none⟩ x2))⟩
structure Res4 (w:World) (r:Nat) (a0 a1 a2 a3 x0 x1 x2 x3:Value):Prop where
 c0:w.cell? ⟨r,0,none⟩=some a0
 f0:w.frozen? ⟨r,0,none⟩=false
 c1:(w.setCell ⟨r,0,none⟩ x0).cell? ⟨r,1,none⟩=some a1
 f1:(w.setCell ⟨r,0,none⟩ x0).frozen? ⟨r,1,none⟩=false
 c2:((w.setCell ⟨r,0,none⟩ x0).setCell ⟨r,1,none⟩ x1).cell? ⟨r,2,none⟩=some a2
 f2:((w.setCell ⟨r,0,none⟩ x0).setCell ⟨r,1,none⟩ x1).frozen? ⟨r,2,none⟩=false
 c3:(((w.setCell ⟨r,0,none⟩ x0).setCell ⟨r,1,none⟩ x1).setCell ⟨r,2,none⟩ x2).cell? ⟨r,3,none⟩=some a3
 f3:(((w.setCell ⟨r,0,none⟩ x0).setCell ⟨r,1,none⟩ x1).setCell ⟨r,2,none⟩ x2).frozen? ⟨r,3,none⟩=false
 at_:cQA ((((w.setCell ⟨r,0,none⟩ x0).setCell ⟨r,1,none⟩ x1).setCell ⟨r,2,none⟩ x2).setCell ⟨r,3,none⟩ x3) r #[x0,x1,x2,x3]
 keep:aQA [r] w ((((w.setCell ⟨r,0,none⟩ x0).setCell ⟨r,1,none⟩ x1).setCell ⟨r,2,none⟩ x2).setCell ⟨r,3,none⟩ x3)
theorem res4 {w:World} {r:Nat} {a0 a1 a2 a3:Value} (h:cQA w r #[a0,a1,a2,a3]) (x0 x1 x2 x3:Value):Res4 w r a0 a1 a2 a3 x0 x1 x2 x3:=by
 have h1:=h.setCell 0 x0;have h2:=h1.setCell 1 x1;have h3:=h2.setCell 2 x2;have h4:=h3.setCell 3 x3;exact ⟨h.cell 0,h.frozen 0,h1.cell 1,h1.frozen 1,h2.cell 2,h2.frozen 2,h3.cell 3,h3.frozen 3,h4,((((aQA.setCell w ⟨r,0,none⟩ x0).trans (aQA.setCell (w.setCell ⟨r,0,none⟩ x0) ⟨r,1,none⟩ x1)).trans (aQA.setCell ((w.setCell ⟨r,0,none⟩ x0).setCell ⟨r,1,none⟩ x1) ⟨r,2,none⟩ x2)).trans (aQA.setCell (((w.setCell ⟨r,0,none⟩ x0).setCell ⟨r,1,none⟩ x1).setCell ⟨r,2,none⟩ x2) ⟨r,3,none⟩ x3))⟩
structure Res5 (w:World) (r:Nat) (a0 a1 a2 a3 a4 x0 x1 x2 x3 x4:Value):Prop where
 c0:w.cell? ⟨r,0,none⟩=some a0
 f0:w.frozen? ⟨r,0,none⟩=false
 c1:(w.setCell ⟨r,0,none⟩ x0).cell? ⟨r,1,none⟩=some a1
 f1:(w.setCell ⟨r,0,none⟩ x0).frozen? ⟨r,1,none⟩=false
 c2:((w.setCell ⟨r,0,none⟩ x0).setCell ⟨r,1,none⟩ x1).cell? ⟨r,2,none⟩=some a2
 f2:((w.setCell ⟨r,0,none⟩ x0).setCell ⟨r,1,none⟩ x1).frozen? ⟨r,2,none⟩=false
 c3:(((w.setCell ⟨r,0,none⟩ x0).setCell ⟨r,1,none⟩ x1).setCell ⟨r,2,none⟩ x2).cell? ⟨r,3,none⟩=some a3
 f3:(((w.setCell ⟨r,0,none⟩ x0).setCell ⟨r,1,none⟩ x1).setCell ⟨r,2,none⟩ x2).frozen? ⟨r,3,none⟩=false
 c4:((((w.setCell ⟨r,0,none⟩ x0).setCell ⟨r,1,none⟩ x1).setCell ⟨r,2,none⟩ x2).setCell ⟨r,3,none⟩ x3).cell? ⟨r,4,none⟩=some a4
 f4:((((w.setCell ⟨r,0,none⟩ x0).setCell ⟨r,1,none⟩ x1).setCell ⟨r,2,none⟩ x2).setCell ⟨r,3,none⟩ x3).frozen? ⟨r,4,none⟩=false
 at_:cQA (((((w.setCell ⟨r,0,none⟩ x0).setCell ⟨r,1,none⟩ x1).setCell ⟨r,2,none⟩ x2).setCell ⟨r,3,none⟩ x3).setCell ⟨r,4,none⟩ x4) r #[x0,x1,x2,x3,x4]
 keep:aQA [r] w (((((w.setCell ⟨r,0,none⟩ x0).setCell ⟨r,1,none⟩ x1).setCell ⟨r,2,none⟩ x2).setCell ⟨r,3,none⟩ x3).setCell ⟨r,4,none⟩ x4)
theorem res5 {w:World} {r:Nat} {a0 a1 a2 a3 a4:Value} (h:cQA w r #[a0,a1,a2,a3,a4]) (x0 x1 x2 x3 x4:Value):Res5 w r a0 a1 a2 a3 a4 x0 x1 x2 x3 x4:=by
 have h1:=h.setCell 0 x0;have h2:=h1.setCell 1 x1;have h3:=h2.setCell 2 x2;have h4:=h3.setCell 3 x3;have h5:=h4.setCell 4 x4;exact ⟨h.cell 0,h.frozen 0,h1.cell 1,h1.frozen 1,h2.cell 2,h2.frozen 2,h3.cell 3,h3.frozen 3,h4.cell 4,h4.frozen 4,h5,(((((aQA.setCell w ⟨r,0,none⟩ x0).trans (aQA.setCell (w.setCell ⟨r,0,none⟩ x0) ⟨r,1,none⟩ x1)).trans (aQA.setCell ((w.setCell ⟨r,0,none⟩ x0).setCell ⟨r,1,none⟩ x1) ⟨r,2,none⟩ x2)).trans (aQA.setCell (((w.setCell ⟨r,0,none⟩ x0).setCell ⟨r,1,none⟩ x1).setCell ⟨r,2,none⟩ x2) ⟨r,3,none⟩ x3)).trans (aQA.setCell ((((w.setCell ⟨r,0,none⟩ x0).setCell ⟨r,1,none⟩ x1).setCell ⟨r,2,none⟩ x2).setCell ⟨r,3,none⟩ x3) ⟨r,4,none⟩ x4))⟩
theorem sees_take_ok {p:Sg→Bool} {us:List Tn} (h:sees p us=true):∃ t,cQC p us=.ok (t,us.tail):=by
 obtain ⟨t,_,_,h3⟩:=takeG_sees h;exact ⟨t,h3⟩
theorem tQB {w:World} {b g:Nat} {k:ByteArray} {p:Sg→Bool} (hk:iQK k p) (hf:iQG p) {us:List Tn} (h:PAt w b g us) (he:bQC us) (hl:us.length≤1000000):Calls Tryz.prog 249 #[.pointer (some ⟨b,0,none⟩),.string k] w fun e w'=>e=.returned (.bool (sees p us))∧PAt w' b g (if sees p us then us.tail else us)∧aQA [b] w w':=by
 have hne:us≠[]:=by obtain ⟨_,_,h⟩:=he.cons;rw [h];simp
 have h1:=hide (sees_calls hk h hne hl);have h2:=hide (tQA hk hf h he hl);cases hs:sees p us with
 | true=>
  obtain ⟨t,ht⟩:=sees_take_ok hs;rw [hs] at h1;rw [ht] at h2;clear h;go_enter Tryz.func249,Tryz.ntmps249
  go_wp2_with fail
  refine h1.out.mono ?_;rintro e w1 ⟨rfl,rfl⟩;go_wp2_with fail
  refine h2.out.mono ?_;rintro e w1 ⟨⟨rfl,hp⟩,k1⟩;go_wp2_with fail
  go_ret
  exact ⟨rfl,hp,k1⟩
 | false=>
  rw [hs] at h1;have hP:=hide h;clear h h2;go_enter Tryz.func249,Tryz.ntmps249
  go_wp2_with fail
  refine h1.out.mono ?_;rintro e w1 ⟨rfl,rfl⟩;go_wp2_with fail
  go_ret
  exact ⟨rfl,hP.out,aQA.refl _ _⟩
theorem wQC (w:World) {b g:Nat} {us:List Tn} (h:PAt w b g us) (o:Obj):PAt (w.alloc o) b g us:=h.keeps (aQA.alloc [] w o) (by simp) (by simp)
theorem column_calls {w:World} {b g:Nat} {us:List Tn} (h:PAt w b g us) (he:bQC us) (hl:us.length≤1000000):Calls Tryz.prog 252 #[.pointer (some ⟨b,0,none⟩)] w fun e w'=>TakeTo b g (cQC fQC us) e w'∧aQA [b] w w':=by
 have h2:=hide (tQA tQH rfl (wQC w h (.cells #[.string ⟨#[]⟩,.string ⟨#[]⟩,.int .i64 0] 129)) he hl);have kA:=aQA.alloc [b] w (.cells #[.string ⟨#[]⟩,.string ⟨#[]⟩,.int .i64 0] 129);have hA:=cQA.new w #[.string ⟨#[]⟩,.string ⟨#[]⟩,.int .i64 0] 129;obtain ⟨hblt,hglt⟩:=h.lt;cases hr:cQC fQC us with
 | error l=>
  rw [hr] at h2;go_enter Tryz.func252,Tryz.ntmps252
  go_wp2_with fail
  refine h2.out.mono ?_;rintro e w1 ⟨rfl,k1⟩;exact ⟨rfl,rfl,kA.trans k1⟩
 | ok q=>
  obtain ⟨t,vs⟩:=q;rw [hr] at h2;go_enter Tryz.func252,Tryz.ntmps252
  go_wp2_with fail
  refine h2.out.mono ?_;rintro e w1 ⟨⟨rfl,hp⟩,k1⟩;have hR:=res3 (hA.keeps k1 (by simp;omega)) (.string (eQA t.g)) (.string (txt t.g)) (.int .i64 t.line);obtain ⟨c0,f0,c1,f1,c2,f2,hat,hk⟩:=hR;have Hat:=hide hat;have Hk:=hide hk;clear hat hk;unfold tokV;go_wp2_with fail
  refine bodyPost_ret (v:=tokV t) (yQD (p:=2) (ty:=129) (by kernel_rfl) _ Hat.out Tryz.underlying129 size129 rfl) rfl ⟨⟨rfl,hp.keeps Hk.out (by simp;omega) (by simp;omega)⟩,(kA.trans k1).trans_new Hk.out (by simp)⟩
theorem term_take {us:List Tn}:cQC zQA us=if sees zQK us then cQC zQK us else cQC isIntG us:=by
 cases us with
 | nil=>rfl
 | cons t us=>
  simp only [cQC,sees];obtain ⟨g,l⟩:=t;cases g <;> simp [zQA,zQK,isIntG]
theorem term_calls {w:World} {b g:Nat} {us:List Tn} (h:PAt w b g us) (he:bQC us) (hl:us.length≤1000000):Calls Tryz.prog 298 #[.pointer (some ⟨b,0,none⟩)] w fun e w'=>TakeTo b g (cQC zQA us) e w'∧aQA [b] w w':=by
 have hne:us≠[]:=by obtain ⟨_,_,h⟩:=he.cons;rw [h];simp
 have h1:=hide (sees_calls kp_var (wQC w h (.cells #[.string ⟨#[]⟩,.string ⟨#[]⟩,.int .i64 0] 129)) hne hl);have h2:=hide (tQA kp_var rfl (wQC w h (.cells #[.string ⟨#[]⟩,.string ⟨#[]⟩,.int .i64 0] 129)) he hl);have h3:=hide (tQA kp_int rfl (wQC w h (.cells #[.string ⟨#[]⟩,.string ⟨#[]⟩,.int .i64 0] 129)) he hl);have kA:=aQA.alloc [b] w (.cells #[.string ⟨#[]⟩,.string ⟨#[]⟩,.int .i64 0] 129);have hA:=cQA.new w #[.string ⟨#[]⟩,.string ⟨#[]⟩,.int .i64 0] 129;obtain ⟨hblt,hglt⟩:=h.lt;clear h;rw [term_take];cases hs:sees zQK us with
 | true=>
  rw [if_pos rfl];rw [hs] at h1;cases hr:cQC zQK us with
  | error l=>
   rw [hr] at h2;go_enter Tryz.func298,Tryz.ntmps298
   go_wp2_with fail
   refine h1.out.mono ?_;rintro e w1 ⟨rfl,rfl⟩;go_wp2_with fail
   refine h2.out.mono ?_;rintro e w1 ⟨rfl,k1⟩;exact ⟨rfl,rfl,kA.trans k1⟩
  | ok q=>
   obtain ⟨t,vs⟩:=q;rw [hr] at h2;go_enter Tryz.func298,Tryz.ntmps298
   go_wp2_with fail
   refine h1.out.mono ?_;rintro e w1 ⟨rfl,rfl⟩;go_wp2_with fail
   refine h2.out.mono ?_;rintro e w1 ⟨⟨rfl,hp⟩,k1⟩;have hR:=res3 (hA.keeps k1 (by simp;omega)) (.string (eQA t.g)) (.string (txt t.g)) (.int .i64 t.line);obtain ⟨c0,f0,c1,f1,c2,f2,hat,hk⟩:=hR;have Hat:=hide hat;have Hk:=hide hk;clear hat hk;unfold tokV;go_wp2_with fail
   refine bodyPost_ret (v:=tokV t) (yQD (p:=2) (ty:=129) (by kernel_rfl) _ Hat.out Tryz.underlying129 size129 rfl) rfl ⟨⟨rfl,hp.keeps Hk.out (by simp;omega) (by simp;omega)⟩,(kA.trans k1).trans_new Hk.out (by simp)⟩
 | false=>
  rw [if_neg (by decide)];rw [hs] at h1;cases hr:cQC isIntG us with
  | error l=>
   rw [hr] at h3;go_enter Tryz.func298,Tryz.ntmps298
   go_wp2_with fail
   refine h1.out.mono ?_;rintro e w1 ⟨rfl,rfl⟩;go_wp2_with fail
   refine h3.out.mono ?_;rintro e w1 ⟨rfl,k1⟩;exact ⟨rfl,rfl,kA.trans k1⟩
  | ok q=>
   obtain ⟨t,vs⟩:=q;rw [hr] at h3;go_enter Tryz.func298,Tryz.ntmps298
   go_wp2_with fail
   refine h1.out.mono ?_;rintro e w1 ⟨rfl,rfl⟩;go_wp2_with fail
   refine h3.out.mono ?_;rintro e w1 ⟨⟨rfl,hp⟩,k1⟩;have hR:=res3 (hA.keeps k1 (by simp;omega)) (.string (eQA t.g)) (.string (txt t.g)) (.int .i64 t.line);obtain ⟨c0,f0,c1,f1,c2,f2,hat,hk⟩:=hR;have Hat:=hide hat;have Hk:=hide hk;clear hat hk;unfold tokV;go_wp2_with fail
   refine bodyPost_ret (v:=tokV t) (yQD (p:=2) (ty:=129) (by kernel_rfl) _ Hat.out Tryz.underlying129 size129 rfl) rfl ⟨⟨rfl,hp.keeps Hk.out (by simp;omega) (by simp;omega)⟩,(kA.trans k1).trans_new Hk.out (by simp)⟩
end
section
open Go.RowKit
def ListTo (base b g:Nat) (r:Except Nat (List Tn×List Tn)) (e:Ending) (w':World):Prop:=match r with
 | .ok (ts,us)=>∃ v,e=.returned v∧w'.ownsRow base 129 3 v ts.length (hQD ts)∧PAt w' b g us
 | .error l=>e=gQC 5 l
theorem tk_one {W:World} (t:Tn):∀ (j:Nat) (x:Value),(tokC t)[j]?=some x→(W.alloc (.cells #[.string (eQA t.g),.string (txt t.g),.int .i64 t.line] 129)).cell? ((⟨W.heap.size,0,none⟩:Addr).add j)=some x:=tk_cell (a:=.string (eQA t.g)) (b:=.string (txt t.g)) (c:=.int .i64 t.line)
theorem rowTok (W:World) (base:Nat) (t:Tn) (hb:base≤W.heap.size):(W.alloc (.cells #[.string (eQA t.g),.string (txt t.g),.int .i64 t.line] 129)).ownsRow base 129 3 (.slice (some ⟨W.heap.size,0,none⟩) 1 1) 1 (hQD [t]):=
 ⟨rfl,.inr ⟨W.heap.size,1,#[.string (eQA t.g),.string (txt t.g),.int .i64 t.line],rfl,hb,(MapKept.heap_alloc W _).1,Nat.le_refl _,by unfold maxLen;omega,rfl,rfl⟩⟩
def sLen:Option Value→Nat | some (.slice _ n _)=>n | _=>0
theorem PAt.len {w:World} {b g:Nat} {us:List Tn} (h:PAt w b g us):sLen (w.cell? ⟨b,0,none⟩)=us.length:=by
 obtain ⟨o,c,h1,_⟩:=h;rw [h1.cell];rfl
def dQK (d:List Tn):Except Nat (List Tn×List Tn)→Except Nat (List Tn×List Tn)
 | .ok (r,us)=>.ok (d++r,us)
 | .error l=>.error l
theorem listG_ok {p:Sg→Bool} {us us1 us2:List Tn} {t1 t2:Tn} (h1:cQC isLpG us=.ok (t1,us1)) (h2:cQC p us1=.ok (t2,us2)):aQH p us=dQK [t2] (bQG p us2.length us2):=by
 unfold aQH;rw [h1];simp only;rw [h2];simp only;cases bQG p us2.length us2 with
 | error l=>rfl
 | ok q=>obtain ⟨r,xs⟩:=q;rfl
theorem listG_e1 {p:Sg→Bool} {us:List Tn} {l:Nat} (h1:cQC isLpG us=.error l):aQH p us=.error l:=by
 unfold aQH;rw [h1]
theorem listG_e2 {p:Sg→Bool} {us us1:List Tn} {t1:Tn} {l:Nat} (h1:cQC isLpG us=.ok (t1,us1)) (h2:cQC p us1=.error l):aQH p us=.error l:=by
 unfold aQH;rw [h1];simp only;rw [h2]
theorem qQI {w:World} {b g:Nat} {us:List Tn} (h:PAt w b g us) (he:bQC us) (hl:us.length≤1000000):Calls Tryz.prog 251 #[.pointer (some ⟨b,0,none⟩),.func (.func 252) #[.pointer (some ⟨b,0,none⟩)] #[]] w fun e w'=>ListTo w.heap.size b g (aQH fQC us) e w'∧aQA [b] w w':=by
 obtain ⟨i0,hi0,hz0,hz1,hz2⟩:=info_parts info129;have hT1:=hide (tQA kp_lp rfl h he hl);have hOne:=hide (fun (w:World) (us:List Tn) (h:PAt w b g us) (he:bQC us) (hl:us.length≤1000000)=>column_calls h he hl);have hComma:=hide (fun (w:World) (us:List Tn) (h:PAt w b g us) (he:bQC us) (hl:us.length≤1000000)=>tQB kp_comma rfl h he hl);have hRp:=hide (fun (w:World) (us:List Tn) (h:PAt w b g us) (he:bQC us) (hl:us.length≤1000000)=>tQA kp_rp rfl h he hl);obtain ⟨hblt,hglt⟩:=h.lt;clear h;cases hr1:cQC isLpG us with
 | error l=>
  rw [hr1] at hT1;rw [listG_e1 hr1];go_enter Tryz.func251,Tryz.ntmps251
  go_wp2_with fail
  refine hT1.out.mono ?_;rintro e w1 ⟨rfl,k1⟩;exact ⟨rfl,rfl,k1⟩
 | ok q1=>
  obtain ⟨t1,us1⟩:=q1;rw [hr1] at hT1;have g1:=(oQA lp_noFin he hr1).1;cases hr2:cQC fQC us1 with
  | error l=>
   rw [listG_e2 hr1 hr2];go_enter Tryz.func251,Tryz.ntmps251
   go_wp2_with fail
   refine hT1.out.mono ?_;rintro e w1 ⟨⟨rfl,hp1⟩,k1⟩;have h2:=hide (hOne.out w1 us1 hp1 g1.2 (by have:=g1.1;omega));rw [hr2] at h2;go_wp2_with fail
   refine h2.out.mono ?_;rintro e w2 ⟨rfl,k2⟩;exact ⟨rfl,rfl,k1.trans k2⟩
  | ok q2=>
   obtain ⟨t2,us2⟩:=q2;have g2:=(oQA (p:=fQC) rfl g1.2 hr2).1;rw [listG_ok hr1 hr2];generalize hR2:dQK [t2] (bQG fQC us2.length us2)=R;have HR2:=hide hR2;clear hR2;go_enter Tryz.func251,Tryz.ntmps251
   go_wp2_with fail
   refine hT1.out.mono ?_;rintro e w1 ⟨⟨rfl,hp1⟩,k1⟩;have h2:=hide (hOne.out w1 us1 hp1 g1.2 (by have:=g1.1;omega));rw [hr2] at h2;go_wp2_with fail
   refine h2.out.mono ?_;rintro e w2 ⟨⟨rfl,hp2⟩,k2⟩;have hrow:=rowTok w2 w.heap.size t2 (by have:=k1.size;have:=k2.size;omega);have kA:=aQA.alloc [b] w2 (.cells #[.string (eQA t2.g),.string (txt t2.g),.int .i64 t2.line] 129);have hp3:=wQC w2 hp2 (.cells #[.string (eQA t2.g),.string (txt t2.g),.int .i64 t2.line] 129);have k3:aQA [b] w (w2.alloc (.cells #[.string (eQA t2.g),.string (txt t2.g),.int .i64 t2.line] 129)):=(k1.trans k2).trans kA;unfold tokV;go_wp2_with fail
   go_loopw [5] (fun y wr=>∃ (k:Nat) (d vs:List Tn),wr.ownsRow w.heap.size 129 3 y d.length (hQD d)∧PAt wr b g vs∧bQC vs∧vs.length≤k∧d.length+vs.length≤us.length∧aQA [b] w wr∧dQK d (bQG fQC k vs)=R) (fun _ wr=>sLen (wr.cell? ⟨b,0,none⟩))
   case atStart=>exact ⟨us2.length,[t2],us2,hrow,hp3,g2.2,Nat.le_refl _,by have:=g1.1;have:=g2.1;simp;omega,k3,HR2.out⟩
   case round=>
    obtain ⟨k,d,vs,own,hpv,hev,hkv,hdv,kr,hres⟩:=hrel;have hlen:=hpv.len;obtain ⟨k,rfl⟩:∃ k',k=k' + 1:=by obtain ⟨t,q,rfl⟩:=hev.cons;simp at hkv;exact ⟨k - 1,by omega⟩
    have hC:=hide (hComma.out wr vs hpv hev (by omega));have hpl:=hide hpv;rw [bQG] at hres;cases hs:sees uQI vs with
    | true=>
     rw [hs] at hC;rw [hs,if_pos rfl] at hres;have g3:=qQB mQD hev hs;cases hr3:cQC fQC vs.tail with
     | error l=>
      rw [hr3] at hres;have Hres:=hide hres;clear hres hpv hlen;go_wp2_with fail
      refine hC.out.mono ?_;rintro e w3 ⟨rfl,hp4,k4⟩;have h5:=hide (hOne.out w3 vs.tail hp4 g3.2 (by have:=g3.1;omega));rw [hr3] at h5;go_wp2_with fail
      refine h5.out.mono ?_;rintro e w4 ⟨rfl,k5⟩;refine ⟨rfl,?_,(kr.trans k4).trans k5⟩;rw [←Hres.out];rfl
     | ok q3=>
      obtain ⟨t3,us3⟩:=q3;rw [hr3] at hres;have g4:=(oQA (p:=fQC) rfl g3.2 hr3).1;have hah:dQK (d++[t3]) (bQG fQC k us3)=R:=by
       rw [←hres];show _=dQK d (match bQG fQC k us3 with
        | .error l=>Except.error l
        | .ok (r,vs)=>.ok (t3 :: r,vs))
       cases bQG fQC k us3 with
       | error l=>rfl
       | ok q=>obtain ⟨r,xs⟩:=q;simp [dQK]
      have Hah:=hide hah;have hlen2:=hide hlen;clear hres hah hpv hlen;obtain ⟨ay,cy,rfl⟩:=fQA own;go_wp2_with fail
      refine hC.out.mono ?_;rintro e w3 ⟨rfl,hp4,k4⟩;have h5:=hide (hOne.out w3 vs.tail hp4 g3.2 (by have:=g3.1;omega));rw [hr3] at h5;go_wp2_with fail
      refine h5.out.mono ?_;rintro e w4 ⟨⟨rfl,hp5⟩,k5⟩;have hnb:∀ j,(Value.slice ay d.length cy).ownBlock=some j→j≠b∧j≠g:=fun j hj=>by have:=(hQA own j hj).1;omega
      have kB:=(k4.trans k5).trans (aQA.alloc [b] w4 (.cells #[.string (eQA t3.g),.string (txt t3.g),.int .i64 t3.line] 129));have ownB:=bQA own kB (fun j hj h=>(hnb j hj).1 (by simpa using h));have hp6:=wQC w4 hp5 (.cells #[.string (eQA t3.g),.string (txt t3.g),.int .i64 t3.line] 129);have hone:=tk_one (W:=w4) t3;have hszB:w.heap.size≤(w4.alloc (.cells #[.string (eQA t3.g),.string (txt t3.g),.int .i64 t3.line] 129)).heap.size:=by rw [dQA];have:=kr.size;have:=k4.size;have:=k5.size;omega
      unfold tokV;go_wp2_with (at_builtin;refine wpList_append_own_at _ rfl _ _ 125 rfl w.heap.size 129 i0 (.agg #[.string ⟨#[]⟩,.string ⟨#[]⟩,.int .i64 0]) 3 40 Tryz.underlying125 hi0 hz0 hz1 hz2 rfl (by decide) _ d.length (hQD d) rfl ownB ⟨w4.heap.size,0,none⟩ 1 1 [.string (eQA t3.g),.string (txt t3.g),.int .i64 t3.line] rfl (by simp) hone (by simp [Value.oneCell']) (by unfold maxLen;omega) (by omega) hszB ?_)
      intro v' W2 own2 grow2 nil2 at2;have k2':=grownBy_keeps' grow2 (Value.slice ay d.length cy).ownBlock.toList (fun r e=>.inl (by simp [e]));have kf:aQA [b] w W2:=(kr.trans kB).trans_new k2' fun j hj=>.inr (hQA own j (by simpa using hj)).1;have hp7:PAt W2 b g us3:=hp6.keeps k2' (fun h=>(hnb b (by simpa using h)).1 rfl) (fun h=>(hnb g (by simpa using h)).2 rfl);have hlen7:=hide hp7.len;have Hp7:=hide hp7;clear hp7;go_wp2_with fail
      go_roundw
      ·exact ⟨k,d++[t3],us3,by rw [kQJ,List.length_append];exact own2,Hp7.out,g4.2,by have:=g3.1;have:=g4.1;omega,by have:=g3.1;have:=g4.1;rw [List.length_append,List.length_singleton];omega,kf,Hah.out⟩
      ·rw [hlen7.out,hlen2.out];have:=g3.1;have:=g4.1;omega
    | false=>
     rw [hs] at hC;rw [hs,if_neg (by decide)] at hres;cases hr3:cQC isRpG vs with
     | error l=>
      rw [hr3] at hres;have Hres:=hide hres;clear hres hpv hlen;go_wp2_with fail
      refine hC.out.mono ?_;rintro e w3 ⟨rfl,hp4,k4⟩;have h5:=hide (hRp.out w3 vs hp4 hev (by omega));rw [hr3] at h5;go_wp2_with fail
      refine h5.out.mono ?_;rintro e w4 ⟨rfl,k5⟩;refine ⟨rfl,?_,(kr.trans k4).trans k5⟩;rw [←Hres.out];rfl
     | ok q3=>
      obtain ⟨t3,us3⟩:=q3;rw [hr3] at hres;have Hres:=hide hres;clear hres hpv hlen;go_wp2_with fail
      refine hC.out.mono ?_;rintro e w3 ⟨rfl,hp4,k4⟩;have h5:=hide (hRp.out w3 vs hp4 hev (by omega));rw [hr3] at h5;go_wp2_with fail
      refine h5.out.mono ?_;rintro e w4 ⟨⟨rfl,hp5⟩,k5⟩;go_wp2_with fail
      go_ret
      refine ⟨?_,(kr.trans k4).trans k5⟩;rw [←Hres.out];refine ⟨_,rfl,?_,hp5⟩;rw [List.append_nil];exact bQA own (k4.trans k5) (fun j hj h=>by have:=(hQA own j hj).1;have e:j=b:=(by simpa using h);omega)
theorem list298_calls {w:World} {b g:Nat} {us:List Tn} (h:PAt w b g us) (he:bQC us) (hl:us.length≤1000000):Calls Tryz.prog 251 #[.pointer (some ⟨b,0,none⟩),.func (.func 298) #[.pointer (some ⟨b,0,none⟩)] #[]] w fun e w'=>ListTo w.heap.size b g (aQH zQA us) e w'∧aQA [b] w w':=by
 obtain ⟨i0,hi0,hz0,hz1,hz2⟩:=info_parts info129;have hT1:=hide (tQA kp_lp rfl h he hl);have hOne:=hide (fun (w:World) (us:List Tn) (h:PAt w b g us) (he:bQC us) (hl:us.length≤1000000)=>term_calls h he hl);have hComma:=hide (fun (w:World) (us:List Tn) (h:PAt w b g us) (he:bQC us) (hl:us.length≤1000000)=>tQB kp_comma rfl h he hl);have hRp:=hide (fun (w:World) (us:List Tn) (h:PAt w b g us) (he:bQC us) (hl:us.length≤1000000)=>tQA kp_rp rfl h he hl);obtain ⟨hblt,hglt⟩:=h.lt;clear h;cases hr1:cQC isLpG us with
 | error l=>
  rw [hr1] at hT1;rw [listG_e1 hr1];go_enter Tryz.func251,Tryz.ntmps251
  go_wp2_with fail
  refine hT1.out.mono ?_;rintro e w1 ⟨rfl,k1⟩;exact ⟨rfl,rfl,k1⟩
 | ok q1=>
  obtain ⟨t1,us1⟩:=q1;rw [hr1] at hT1;have g1:=(oQA lp_noFin he hr1).1;cases hr2:cQC zQA us1 with
  | error l=>
   rw [listG_e2 hr1 hr2];go_enter Tryz.func251,Tryz.ntmps251
   go_wp2_with fail
   refine hT1.out.mono ?_;rintro e w1 ⟨⟨rfl,hp1⟩,k1⟩;have h2:=hide (hOne.out w1 us1 hp1 g1.2 (by have:=g1.1;omega));rw [hr2] at h2;go_wp2_with fail
   refine h2.out.mono ?_;rintro e w2 ⟨rfl,k2⟩;exact ⟨rfl,rfl,k1.trans k2⟩
  | ok q2=>
   obtain ⟨t2,us2⟩:=q2;have g2:=(oQA (p:=zQA) rfl g1.2 hr2).1;rw [listG_ok hr1 hr2];generalize hR2:dQK [t2] (bQG zQA us2.length us2)=R;have HR2:=hide hR2;clear hR2;go_enter Tryz.func251,Tryz.ntmps251
   go_wp2_with fail
   refine hT1.out.mono ?_;rintro e w1 ⟨⟨rfl,hp1⟩,k1⟩;have h2:=hide (hOne.out w1 us1 hp1 g1.2 (by have:=g1.1;omega));rw [hr2] at h2;go_wp2_with fail
   refine h2.out.mono ?_;rintro e w2 ⟨⟨rfl,hp2⟩,k2⟩;have hrow:=rowTok w2 w.heap.size t2 (by have:=k1.size;have:=k2.size;omega);have kA:=aQA.alloc [b] w2 (.cells #[.string (eQA t2.g),.string (txt t2.g),.int .i64 t2.line] 129);have hp3:=wQC w2 hp2 (.cells #[.string (eQA t2.g),.string (txt t2.g),.int .i64 t2.line] 129);have k3:aQA [b] w (w2.alloc (.cells #[.string (eQA t2.g),.string (txt t2.g),.int .i64 t2.line] 129)):=(k1.trans k2).trans kA;unfold tokV;go_wp2_with fail
   go_loopw [5] (fun y wr=>∃ (k:Nat) (d vs:List Tn),wr.ownsRow w.heap.size 129 3 y d.length (hQD d)∧PAt wr b g vs∧bQC vs∧vs.length≤k∧d.length+vs.length≤us.length∧aQA [b] w wr∧dQK d (bQG zQA k vs)=R) (fun _ wr=>sLen (wr.cell? ⟨b,0,none⟩))
   case atStart=>exact ⟨us2.length,[t2],us2,hrow,hp3,g2.2,Nat.le_refl _,by have:=g1.1;have:=g2.1;simp;omega,k3,HR2.out⟩
   case round=>
    obtain ⟨k,d,vs,own,hpv,hev,hkv,hdv,kr,hres⟩:=hrel;have hlen:=hpv.len;obtain ⟨k,rfl⟩:∃ k',k=k' + 1:=by obtain ⟨t,q,rfl⟩:=hev.cons;simp at hkv;exact ⟨k - 1,by omega⟩
    have hC:=hide (hComma.out wr vs hpv hev (by omega));have hpl:=hide hpv;rw [bQG] at hres;cases hs:sees uQI vs with
    | true=>
     rw [hs] at hC;rw [hs,if_pos rfl] at hres;have g3:=qQB mQD hev hs;cases hr3:cQC zQA vs.tail with
     | error l=>
      rw [hr3] at hres;have Hres:=hide hres;clear hres hpv hlen;go_wp2_with fail
      refine hC.out.mono ?_;rintro e w3 ⟨rfl,hp4,k4⟩;have h5:=hide (hOne.out w3 vs.tail hp4 g3.2 (by have:=g3.1;omega));rw [hr3] at h5;go_wp2_with fail
      refine h5.out.mono ?_;rintro e w4 ⟨rfl,k5⟩;refine ⟨rfl,?_,(kr.trans k4).trans k5⟩;rw [←Hres.out];rfl
     | ok q3=>
      obtain ⟨t3,us3⟩:=q3;rw [hr3] at hres;have g4:=(oQA (p:=zQA) rfl g3.2 hr3).1;have hah:dQK (d++[t3]) (bQG zQA k us3)=R:=by
       rw [←hres];show _=dQK d (match bQG zQA k us3 with
        | .error l=>Except.error l
        | .ok (r,vs)=>.ok (t3 :: r,vs))
       cases bQG zQA k us3 with
       | error l=>rfl
       | ok q=>obtain ⟨r,xs⟩:=q;simp [dQK]
      have Hah:=hide hah;have hlen2:=hide hlen;clear hres hah hpv hlen;obtain ⟨ay,cy,rfl⟩:=fQA own;go_wp2_with fail
      refine hC.out.mono ?_;rintro e w3 ⟨rfl,hp4,k4⟩;have h5:=hide (hOne.out w3 vs.tail hp4 g3.2 (by have:=g3.1;omega));rw [hr3] at h5;go_wp2_with fail
      refine h5.out.mono ?_;rintro e w4 ⟨⟨rfl,hp5⟩,k5⟩;have hnb:∀ j,(Value.slice ay d.length cy).ownBlock=some j→j≠b∧j≠g:=fun j hj=>by have:=(hQA own j hj).1;omega
      have kB:=(k4.trans k5).trans (aQA.alloc [b] w4 (.cells #[.string (eQA t3.g),.string (txt t3.g),.int .i64 t3.line] 129));have ownB:=bQA own kB (fun j hj h=>(hnb j hj).1 (by simpa using h));have hp6:=wQC w4 hp5 (.cells #[.string (eQA t3.g),.string (txt t3.g),.int .i64 t3.line] 129);have hone:=tk_one (W:=w4) t3;have hszB:w.heap.size≤(w4.alloc (.cells #[.string (eQA t3.g),.string (txt t3.g),.int .i64 t3.line] 129)).heap.size:=by rw [dQA];have:=kr.size;have:=k4.size;have:=k5.size;omega
      unfold tokV;go_wp2_with (at_builtin;refine wpList_append_own_at _ rfl _ _ 125 rfl w.heap.size 129 i0 (.agg #[.string ⟨#[]⟩,.string ⟨#[]⟩,.int .i64 0]) 3 40 Tryz.underlying125 hi0 hz0 hz1 hz2 rfl (by decide) _ d.length (hQD d) rfl ownB ⟨w4.heap.size,0,none⟩ 1 1 [.string (eQA t3.g),.string (txt t3.g),.int .i64 t3.line] rfl (by simp) hone (by simp [Value.oneCell']) (by unfold maxLen;omega) (by omega) hszB ?_)
      intro v' W2 own2 grow2 nil2 at2;have k2':=grownBy_keeps' grow2 (Value.slice ay d.length cy).ownBlock.toList (fun r e=>.inl (by simp [e]));have kf:aQA [b] w W2:=(kr.trans kB).trans_new k2' fun j hj=>.inr (hQA own j (by simpa using hj)).1;have hp7:PAt W2 b g us3:=hp6.keeps k2' (fun h=>(hnb b (by simpa using h)).1 rfl) (fun h=>(hnb g (by simpa using h)).2 rfl);have hlen7:=hide hp7.len;have Hp7:=hide hp7;clear hp7;go_wp2_with fail
      go_roundw
      ·exact ⟨k,d++[t3],us3,by rw [kQJ,List.length_append];exact own2,Hp7.out,g4.2,by have:=g3.1;have:=g4.1;omega,by have:=g3.1;have:=g4.1;rw [List.length_append,List.length_singleton];omega,kf,Hah.out⟩
      ·rw [hlen7.out,hlen2.out];have:=g3.1;have:=g4.1;omega
    | false=>
     rw [hs] at hC;rw [hs,if_neg (by decide)] at hres;cases hr3:cQC isRpG vs with
     | error l=>
      rw [hr3] at hres;have Hres:=hide hres;clear hres hpv hlen;go_wp2_with fail
      refine hC.out.mono ?_;rintro e w3 ⟨rfl,hp4,k4⟩;have h5:=hide (hRp.out w3 vs hp4 hev (by omega));rw [hr3] at h5;go_wp2_with fail
      refine h5.out.mono ?_;rintro e w4 ⟨rfl,k5⟩;refine ⟨rfl,?_,(kr.trans k4).trans k5⟩;rw [←Hres.out];rfl
     | ok q3=>
      obtain ⟨t3,us3⟩:=q3;rw [hr3] at hres;have Hres:=hide hres;clear hres hpv hlen;go_wp2_with fail
      refine hC.out.mono ?_;rintro e w3 ⟨rfl,hp4,k4⟩;have h5:=hide (hRp.out w3 vs hp4 hev (by omega));rw [hr3] at h5;go_wp2_with fail
      refine h5.out.mono ?_;rintro e w4 ⟨⟨rfl,hp5⟩,k5⟩;go_wp2_with fail
      go_ret
      refine ⟨?_,(kr.trans k4).trans k5⟩;rw [←Hres.out];refine ⟨_,rfl,?_,hp5⟩;rw [List.append_nil];exact bQA own (k4.trans k5) (fun j hj h=>by have:=(hQA own j hj).1;have e:j=b:=(by simpa using h);omega)
end
section
open Go.RowKit
theorem sQA {w:World} {base base':Nat} {e:TypeId} {size:Nat} {v:Value} {n:Nat} {xs:List Value} (h:w.ownsRow base e size v n xs) (hb:base'≤base):w.ownsRow base' e size v n xs:=by
 obtain ⟨h1,h2⟩:=h;refine ⟨h1,?_⟩;rcases h2 with h2 | ⟨g,cap,cur,h3,h4,h5⟩
 ·exact .inl h2
 ·exact .inr ⟨g,cap,cur,h3,by omega,h5⟩
theorem size327:(Tryz.prog.info? 327).map (·.size)=some 4:=by kernel_rfl
theorem size353:(Tryz.prog.info? 353).map (·.size)=some 5:=by kernel_rfl
def AtomTo (base b g:Nat) (r:Except Nat (dQE×List Tn)) (e:Ending) (w':World):Prop:=match r with
 | .ok (a,us)=>∃ v,e=.returned (.agg #[.string (eQA a.name.g),.string (txt a.name.g),.int .i64 a.name.line,v])∧w'.ownsRow base 129 3 v a.terms.length (hQD a.terms)∧PAt w' b g us
 | .error l=>e=gQC 5 l
theorem eQI {w:World} {b g:Nat} {us:List Tn} (h:PAt w b g us) (he:bQC us) (hl:us.length≤1000000):Calls Tryz.prog 289 #[.pointer (some ⟨b,0,none⟩)] w fun e w'=>AtomTo w.heap.size b g (gQI us) e w'∧aQA [b] w w':=by
 have h2:=hide (tQA tQH rfl (wQC w h (.cells #[.string ⟨#[]⟩,.string ⟨#[]⟩,.int .i64 0,.slice none 0 0] 327)) he hl);have kA:=aQA.alloc [b] w (.cells #[.string ⟨#[]⟩,.string ⟨#[]⟩,.int .i64 0,.slice none 0 0] 327);have hA:=cQA.new w #[.string ⟨#[]⟩,.string ⟨#[]⟩,.int .i64 0,.slice none 0 0] 327;obtain ⟨hblt,hglt⟩:=h.lt;clear h;unfold gQI;cases hr:cQC fQC us with
 | error l=>
  rw [hr] at h2;go_enter Tryz.func289,Tryz.ntmps289
  go_wp2_with fail
  refine h2.out.mono ?_;rintro e w1 ⟨rfl,k1⟩;exact ⟨rfl,rfl,kA.trans k1⟩
 | ok q=>
  obtain ⟨t,vs⟩:=q;rw [hr] at h2;have g1:=(oQA lQC he hr).1;simp only;cases hr2:aQH zQA vs with
  | error l=>
   go_enter Tryz.func289,Tryz.ntmps289
   go_wp2_with fail
   refine h2.out.mono ?_;rintro e w1 ⟨⟨rfl,hp1⟩,k1⟩;have h3:=hide (list298_calls hp1 g1.2 (by have:=g1.1;omega));rw [hr2] at h3;go_wp2_with fail
   refine h3.out.mono ?_;rintro e w2 ⟨rfl,k2⟩;exact ⟨rfl,rfl,(kA.trans k1).trans k2⟩
  | ok q2=>
   obtain ⟨ts,us2⟩:=q2;go_enter Tryz.func289,Tryz.ntmps289
   go_wp2_with fail
   refine h2.out.mono ?_;rintro e w1 ⟨⟨rfl,hp1⟩,k1⟩;have h3:=hide (list298_calls hp1 g1.2 (by have:=g1.1;omega));rw [hr2] at h3;go_wp2_with fail
   refine h3.out.mono ?_;rintro e w2 ⟨⟨v,rfl,own,hp2⟩,k2⟩;have hsz1:w.heap.size+1≤w1.heap.size:=by have:=k1.size;rw [dQA] at this;exact this
   have hR:=res4 (hA.keeps (k1.trans k2) (by simp;omega)) (.string (eQA t.g)) (.string (txt t.g)) (.int .i64 t.line) v;obtain ⟨c0,f0,c1,f1,c2,f2,c3,f3,hat,hk⟩:=hR;have Hat:=hide hat;have Hk:=hide hk;obtain ⟨av,cv,hv⟩:=fQA own;subst hv;have Hown:=hide own;clear hat hk own;unfold tokV;go_wp2_with fail
   refine bodyPost_ret (v:=.agg #[.string (eQA t.g),.string (txt t.g),.int .i64 t.line,.slice av ts.length cv]) (yQD (p:=2) (ty:=327) (by kernel_rfl) _ Hat.out Tryz.underlying327 size327 rfl) rfl ⟨⟨_,rfl,?_,hp2.keeps Hk.out (by simp;omega) (by simp;omega)⟩,((kA.trans k1).trans k2).trans_new Hk.out (by simp)⟩;exact sQA (bQA Hown.out Hk.out (fun j hj h=>by have:=(hQA Hown.out j hj).1;have e:j=w.heap.size:=(by simpa using h);omega)) (by omega)
def LitTo (base b g:Nat) (r:Except Nat (LitI×List Tn)) (e:Ending) (w':World):Prop:=match r with
 | .ok (a,us)=>∃ v,e=.returned (.agg #[.string (eQA a.atom.name.g),.string (txt a.atom.name.g),.int .i64 a.atom.name.line,v,.bool a.no])∧w'.ownsRow base 129 3 v a.atom.terms.length (hQD a.atom.terms)∧PAt w' b g us
 | .error l=>e=gQC 5 l
theorem lit_calls {w:World} {b g:Nat} {us:List Tn} (h:PAt w b g us) (he:bQC us) (hl:us.length≤1000000):Calls Tryz.prog 290 #[.pointer (some ⟨b,0,none⟩)] w fun e w'=>LitTo w.heap.size b g (litG us) e w'∧aQA [b] w w':=by
 have h2:=hide (tQB kp_bang rfl (wQC w h (.cells #[.string ⟨#[]⟩,.string ⟨#[]⟩,.int .i64 0,.slice none 0 0,.bool false] 353)) he hl);have kA:=aQA.alloc [b] w (.cells #[.string ⟨#[]⟩,.string ⟨#[]⟩,.int .i64 0,.slice none 0 0,.bool false] 353);have hA:=cQA.new w #[.string ⟨#[]⟩,.string ⟨#[]⟩,.int .i64 0,.slice none 0 0,.bool false] 353;obtain ⟨hblt,hglt⟩:=h.lt;clear h;unfold litG;split
 ·rename_i hs;rw [hs] at h2;have hev:bQC us.tail∧us.tail.length≤1000000:=by have g1:=qQB bang_noFin he hs;exact ⟨g1.2,by have:=g1.1;omega⟩
  cases hr2:gQI us.tail with
  | error l=>
   go_enter Tryz.func290,Tryz.ntmps290
   go_wp2_with fail
   refine h2.out.mono ?_;rintro e w1 ⟨rfl,hp1,k1⟩;have h3:=hide (eQI (us:=us.tail) hp1 hev.1 hev.2);rw [hr2] at h3;go_wp2_with fail
   refine h3.out.mono ?_;rintro e w2 ⟨rfl,k2⟩;exact ⟨rfl,rfl,(kA.trans k1).trans k2⟩
  | ok q2=>
   obtain ⟨a,us2⟩:=q2;go_enter Tryz.func290,Tryz.ntmps290
   go_wp2_with fail
   refine h2.out.mono ?_;rintro e w1 ⟨rfl,hp1,k1⟩;have h3:=hide (eQI (us:=us.tail) hp1 hev.1 hev.2);rw [hr2] at h3;go_wp2_with fail
   refine h3.out.mono ?_;rintro e w2 ⟨⟨v,rfl,own,hp2⟩,k2⟩;have hsz1:w.heap.size+1≤w1.heap.size:=by have:=k1.size;rw [dQA] at this;exact this
   have hR:=res5 (hA.keeps (k1.trans k2) (by simp;omega)) (.string (eQA a.name.g)) (.string (txt a.name.g)) (.int .i64 a.name.line) v (.bool true);obtain ⟨c0,f0,c1,f1,c2,f2,c3,f3,c4,f4,hat,hk⟩:=hR;have Hat:=hide hat;have Hk:=hide hk;obtain ⟨av,cv,hv⟩:=fQA own;subst hv;have Hown:=hide own;clear hat hk own;go_wp2_with fail
   refine bodyPost_ret (v:=.agg #[.string (eQA a.name.g),.string (txt a.name.g),.int .i64 a.name.line,.slice av a.terms.length cv,.bool true]) (yQD (p:=2) (ty:=353) (by kernel_rfl) _ Hat.out Tryz.underlying353 size353 rfl) rfl ⟨⟨_,rfl,?_,hp2.keeps Hk.out (by simp;omega) (by simp;omega)⟩,((kA.trans k1).trans k2).trans_new Hk.out (by simp)⟩;exact sQA (bQA Hown.out Hk.out (fun j hj h=>by have:=(hQA Hown.out j hj).1;have e:j=w.heap.size:=(by simpa using h);omega)) (by omega)
 ·rename_i hs;rw [Bool.not_eq_true] at hs;rw [hs] at h2;have hev:bQC us∧us.length≤1000000:=⟨he,hl⟩;cases hr2:gQI us with
  | error l=>
   go_enter Tryz.func290,Tryz.ntmps290
   go_wp2_with fail
   refine h2.out.mono ?_;rintro e w1 ⟨rfl,hp1,k1⟩;have h3:=hide (eQI (us:=us) hp1 hev.1 hev.2);rw [hr2] at h3;go_wp2_with fail
   refine h3.out.mono ?_;rintro e w2 ⟨rfl,k2⟩;exact ⟨rfl,rfl,(kA.trans k1).trans k2⟩
  | ok q2=>
   obtain ⟨a,us2⟩:=q2;go_enter Tryz.func290,Tryz.ntmps290
   go_wp2_with fail
   refine h2.out.mono ?_;rintro e w1 ⟨rfl,hp1,k1⟩;have h3:=hide (eQI (us:=us) hp1 hev.1 hev.2);rw [hr2] at h3;go_wp2_with fail
   refine h3.out.mono ?_;rintro e w2 ⟨⟨v,rfl,own,hp2⟩,k2⟩;have hsz1:w.heap.size+1≤w1.heap.size:=by have:=k1.size;rw [dQA] at this;exact this
   have hR:=res5 (hA.keeps (k1.trans k2) (by simp;omega)) (.string (eQA a.name.g)) (.string (txt a.name.g)) (.int .i64 a.name.line) v (.bool false);obtain ⟨c0,f0,c1,f1,c2,f2,c3,f3,c4,f4,hat,hk⟩:=hR;have Hat:=hide hat;have Hk:=hide hk;obtain ⟨av,cv,hv⟩:=fQA own;subst hv;have Hown:=hide own;clear hat hk own;go_wp2_with fail
   refine bodyPost_ret (v:=.agg #[.string (eQA a.name.g),.string (txt a.name.g),.int .i64 a.name.line,.slice av a.terms.length cv,.bool false]) (yQD (p:=2) (ty:=353) (by kernel_rfl) _ Hat.out Tryz.underlying353 size353 rfl) rfl ⟨⟨_,rfl,?_,hp2.keeps Hk.out (by simp;omega) (by simp;omega)⟩,((kA.trans k1).trans k2).trans_new Hk.out (by simp)⟩;exact sQA (bQA Hown.out Hk.out (fun j hj h=>by have:=(hQA Hown.out j hj).1;have e:j=w.heap.size:=(by simpa using h);omega)) (by omega)
end
section
open Go.RowKit
def oQE (l:LitI) (v:Value):List Value:=[.string (eQA l.atom.name.g),.string (txt l.atom.name.g),.int .i64 l.atom.name.line,v,.bool l.no]
theorem qQA {w:World} {base:Nat} {e:TypeId} {size n:Nat} {v:Value} {xs:List Value} (h:w.ownsRow base e size v n xs):∀ i,v.ownBlock=some i→base≤i∧i<w.heap.size:=fun i hi=>by
 obtain ⟨h1,cs,t,hh⟩:=hQA h i hi;refine ⟨h1,?_⟩;rcases Nat.lt_or_ge i w.heap.size with h | h
 ·exact h
 ·rw [Array.getElem?_eq_none h] at hh;cases hh
def vQC (w:World) (base:Nat) (X:List Nat):List LitI→List Value→Prop
 | [],cs=>cs=[]
 | l :: ls,cs=>∃ v rest,cs=oQE l v++rest∧w.ownsRow base 129 3 v l.atom.terms.length (hQD l.atom.terms)∧(∀ j,v.ownBlock=some j→j∉X)∧vQC w base X ls rest
theorem vQC.keeps {w w':World} {base:Nat} {X T:List Nat} {ls:List LitI} {cs:List Value} (h:vQC w base X ls cs) (k:aQA T w w') (hT:∀ j∈T,j∈X∨j<base∨w.heap.size≤j):vQC w' base X ls cs:=by
 induction ls generalizing cs with
 | nil=>exact h
 | cons l ls ih=>
  obtain ⟨v,rest,h1,h2,h3,h4⟩:=h;refine ⟨v,rest,h1,bQA h2 k (fun j hj hjT=>?_),h3,ih h4⟩;have:=qQA h2 j hj;rcases hT j hjT with h | h | h
  ·exact h3 j hj h
  ·omega
  ·omega
theorem vQC.apart {w:World} {base:Nat} {X Y:List Nat} {ls:List LitI} {cs:List Value} (h:vQC w base X ls cs) (hY:∀ j∈Y,j∈X∨w.heap.size≤j):vQC w base Y ls cs:=by
 induction ls generalizing cs with
 | nil=>exact h
 | cons l ls ih=>
  obtain ⟨v,rest,h1,h2,h3,h4⟩:=h;refine ⟨v,rest,h1,h2,fun j hj hjY=>?_,ih h4⟩;have:=qQA h2 j hj;rcases hY j hjY with h | h
  ·exact h3 j hj h
  ·omega
theorem vQC.snoc {w:World} {base:Nat} {X:List Nat} {ls:List LitI} {cs:List Value} (h:vQC w base X ls cs) {l:LitI} {v:Value} (h2:w.ownsRow base 129 3 v l.atom.terms.length (hQD l.atom.terms)) (h3:∀ j,v.ownBlock=some j→j∉X):vQC w base X (ls++[l]) (cs++oQE l v):=by
 induction ls generalizing cs with
 | nil=>
  have:cs=[]:=h;subst this;exact ⟨v,[],by simp,h2,h3,rfl⟩
 | cons x ls ih=>
  obtain ⟨u,rest,h1,k2,k3,k4⟩:=h;exact ⟨u,rest++oQE l v,by rw [h1,List.append_assoc],k2,k3,ih k4⟩
theorem vQC.mono {w:World} {base base':Nat} {X:List Nat} {ls:List LitI} {cs:List Value} (h:vQC w base X ls cs) (hb:base'≤base):vQC w base' X ls cs:=by
 induction ls generalizing cs with
 | nil=>exact h
 | cons l ls ih=>
  obtain ⟨v,rest,h1,h2,h3,h4⟩:=h;exact ⟨v,rest,h1,sQA h2 hb,h3,ih h4⟩
structure CL (w:World) (rb cb b g:Nat) (nm:Tn) (terms:List Tn) (hv:Value) (d:List LitI) (lv:Value) (cs:List Value) (us:List Tn):Prop where
 res:cQA w rb #[.string ⟨#[]⟩,.string ⟨#[]⟩,.int .i64 0,.slice none 0 0,.slice none 0 0]
 cl:cQA w cb #[.string (eQA nm.g),.string (txt nm.g),.int .i64 nm.line,hv,lv]
 rc:rb<cb
 low:b<rb∧g<rb
 head:w.ownsRow rb 129 3 hv terms.length (hQD terms)
 headA:∀ j,hv.ownBlock=some j→j∉[rb,cb]∧lv.ownBlock≠some j
 lits:w.ownsRow rb 353 5 lv d.length cs
 litsA:∀ j,lv.ownBlock=some j→j∉[rb,cb]
 are:vQC w rb ([rb,cb]++lv.ownBlock.toList) d cs
 at_:PAt w b g us
theorem CL.go {w w':World} {rb cb b g:Nat} {nm:Tn} {terms:List Tn} {hv:Value} {d:List LitI} {lv:Value} {cs:List Value} {us us':List Tn} (h:CL w rb cb b g nm terms hv d lv cs us) (k:aQA [b] w w') (hp:PAt w' b g us'):CL w' rb cb b g nm terms hv d lv cs us':=by
 have:=h.low;have:=h.rc;refine ⟨h.res.keeps k (by simp;omega),h.cl.keeps k (by simp;omega),h.rc,h.low,bQA h.head k (fun j hj hT=>?_),h.headA,bQA h.lits k (fun j hj hT=>?_),h.litsA,h.are.keeps k (fun j hj=>?_),hp⟩
 ·have:=(hQA h.head j hj).1;have e:j=b:=(by simpa using hT);omega
 ·have:=(hQA h.lits j hj).1;have e:j=b:=(by simpa using hT);omega
 ·have e:j=b:=(by simpa using hj);omega
theorem CL.drew {w:World} {rb cb b g:Nat} {nm:Tn} {terms:List Tn} {hv:Value} {d:List LitI} {lv:Value} {cs:List Value} {us:List Tn} (h:CL w rb cb b g nm terms hv d lv cs us):CL w.drew rb cb b g nm terms hv d lv cs us:=h.go (aQA.drew _ _) (h.at_.keeps (aQA.drew [] w) (by simp) (by simp))
theorem CL.push {w w2 w3:World} {rb cb b g:Nat} {nm:Tn} {terms:List Tn} {hv:Value} {d:List LitI} {lv:Value} {cs:List Value} {us:List Tn} (h:CL w rb cb b g nm terms hv d lv cs us) {l:LitI} {tv:Value} (hrow:w.ownsRow rb 129 3 tv l.atom.terms.length (hQD l.atom.terms)) (hrowA:∀ j,tv.ownBlock=some j→j∉[rb,cb]++lv.ownBlock.toList∧j<w.heap.size)
  (k2:aQA lv.ownBlock.toList w w2) {gg cap:Nat} (hgg:lv.ownBlock=some gg∨w.heap.size≤gg) (own:w2.ownsRow rb 353 5 (.slice (some ⟨gg,0,none⟩) (d.length+1) cap) (d.length+1) (cs++oQE l tv)) (hw3:w3=w2.setCell ⟨cb,4,none⟩ (.slice (some ⟨gg,0,none⟩) (d.length+1) cap)):CL w3 rb cb b g nm terms hv (d++[l]) (.slice (some ⟨gg,0,none⟩) (d.length+1) cap) (cs++oQE l tv) us:=by
 subst hw3;have hlow:=h.low;have hrc:=h.rc;have hcbl:=h.cl.lt;have hcl2:=h.cl.keeps k2 (fun hT=>h.litsA cb (by simpa using hT) (by simp));have hres2:=h.res.keeps k2 (fun hT=>h.litsA rb (by simpa using hT) (by simp));have hat2:=h.at_.keeps k2 (fun hT=>by have:=(hQA h.lits b (by simpa using hT)).1;omega) (fun hT=>by have:=(hQA h.lits g (by simpa using hT)).1;omega);have hggA:gg∉[rb,cb]:=by
  rcases hgg with e | e
  ·exact h.litsA gg e
  ·simp;omega
 have ks:=aQA.setCell w2 ⟨cb,4,none⟩ (.slice (some ⟨gg,0,none⟩) (d.length+1) cap);have hh2:=bQA h.head k2 (fun j hj hT=>(h.headA j hj).2 (by simpa using hT));have hY:∀ j∈[rb,cb]++[gg],j∈[rb,cb]++lv.ownBlock.toList∨w.heap.size≤j:=by
  intro j hj;rcases List.mem_append.1 hj with hj | hj
  ·exact .inl (List.mem_append_left _ hj)
  ·have e:j=gg:=(by simpa using hj);rcases hgg with e' | e'
   ·left;rw [e,e'];simp
   ·right;omega
 refine ⟨hres2.keeps ks (by simp;omega),hcl2.setCell 4 _,h.rc,h.low,bQA hh2 ks (fun j hj hT=>?_),fun j hj=>⟨(h.headA j hj).1,fun e=>?_⟩,?_,fun j hj=>?_,?_,hat2.keeps ks (by simp;omega) (by simp;omega)⟩
 ·have e:j=cb:=(by simpa using hT);exact (h.headA j hj).1 (by simp [e])
 ·have e:gg=j:=(by simpa [Value.ownBlock] using e);rcases hgg with e' | e'
  ·exact (h.headA j hj).2 (by rw [e',e])
  ·have:=(qQA h.head j hj).2;omega
 ·rw [List.length_append,List.length_singleton];exact bQA own ks (fun j hj hT=>by have e:j=cb:=(by simpa using hT);have e2:gg=j:=(by simpa [Value.ownBlock] using hj);exact hggA (by simp [e2,e]))
 ·have e:gg=j:=(by simpa [Value.ownBlock] using hj);rw [←e];exact hggA
 ·have are2:=(h.are.apart (Y:=[rb,cb]++[gg]++lv.ownBlock.toList) (fun j hj=>by
   rcases List.mem_append.1 hj with hj | hj
   ·exact hY j hj
   ·exact .inl (List.mem_append_right _ hj))).keeps k2 (fun j hj=>.inl (List.mem_append_right _ hj))
  have are3:=are2.snoc (l:=l) (v:=tv) (bQA hrow k2 (fun j hj hT=>(hrowA j hj).1 (List.mem_append_right _ hT))) (fun j hj hT=>by
   rcases List.mem_append.1 hT with hT | hT
   ·rcases hY j hT with h' | h'
    ·exact (hrowA j hj).1 h'
    ·have:=(hrowA j hj).2;omega
   ·exact (hrowA j hj).1 (List.mem_append_right _ hT))
  have are4:=are3.keeps ks (fun j hj=>.inl (by have e:j=cb:=(by simpa using hj);simp [e]));refine are4.apart (fun j hj=>.inl ?_);simp [Value.ownBlock] at hj ⊢;rcases hj with h | h | h <;> simp [h]
end
end Go.Proofs.YtgjomknpjigkhaaGreatDoor
