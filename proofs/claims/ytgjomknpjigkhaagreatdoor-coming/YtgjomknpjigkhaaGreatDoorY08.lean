import Derived.Test.YtgjomknpjigkhaaGreatDoorY05
import Derived.Laws.Rows
namespace Go.Proofs.YtgjomknpjigkhaaGreatDoor
set_option maxRecDepth 100000
set_option maxHeartbeats 4000000
section
open Go.RowKit
def Gi (k:ByteArray) (p:Sg→Bool):Prop:=∀ g,((AW g).toList == k.toList)=p g
theorem Ek {k:ByteArray} {p:Sg→Bool} (h:∀ g,decide (AW g=k)=p g):Gi k p:=fun g=>by
 rw [←h g,Bn,Rh,decide_eq_true_iff]
theorem GY:Gi ⟨#[78,65,77,69]⟩ DE:=Ek fun g=>by cases g <;> first | rfl | decide
theorem SS:Gi ⟨#[73,78,84]⟩ KV:=Ek fun g=>by cases g <;> first | rfl | decide
theorem dB:Gi ⟨#[86,65,82]⟩ Ik:=Ek fun g=>by cases g <;> first | rfl | decide
theorem Wi:Gi ⟨#[100,111,109]⟩ Lp:=Ek fun g=>by cases g <;> first | rfl | decide
theorem M1:Gi ⟨#[114,101,108]⟩ M4:=Ek fun g=>by cases g <;> first | rfl | decide
theorem lY:Gi ⟨#[40]⟩ Ni:=Ek fun g=>by cases g <;> first | rfl | decide
theorem lX:Gi ⟨#[41]⟩ Uu:=Ek fun g=>by cases g <;> first | rfl | decide
theorem PB:Gi ⟨#[44]⟩ HO:=Ek fun g=>by cases g <;> first | rfl | decide
theorem OF:Gi ⟨#[59]⟩ Kv:=Ek fun g=>by cases g <;> first | rfl | decide
theorem SU:Gi ⟨#[46]⟩ Lo:=Ek fun g=>by cases g <;> first | rfl | decide
theorem iT:Gi ⟨#[33]⟩ SX:=Ek fun g=>by cases g <;> first | rfl | decide
theorem dC:Gi ⟨#[58,45]⟩ MP:=Ek fun g=>by cases g <;> first | rfl | decide
theorem nB:Gi ⟨#[101,110,100]⟩ KX:=Ek fun g=>by cases g <;> first | rfl | decide
def Mn (t:Tn):List Value:=[.string (AW t.g),.string (BF t.g),.int .i64 t.line]
def Db (t:Tn):Value:=.agg #[.string (AW t.g),.string (BF t.g),.int .i64 t.line]
def Di (ts:List Tn):List Value:=ts.flatMap Mn
theorem JH (a b:List Tn):Di (a++b)=Di a++Di b:=by simp [Di]
def NG (w:World) (g o:Nat) (us:List Tn):Prop:=∃ cs,AM w g cs∧∀ (j:Nat) (t:Tn),us[j]?=some t→cs[o+j * 3]?=some (.string (AW t.g))∧cs[o+j * 3+1]?=some (.string (BF t.g))∧cs[o+j * 3+2]?=some (.int .i64 t.line)
theorem NG.keeps {w w':World} {g o:Nat} {us:List Tn} {T:List Nat} (h:NG w g o us) (k:AA T w w') (hg:g∉T:=by simp):NG w' g o us:=by
 obtain ⟨cs,h1,h2⟩:=h;exact ⟨cs,h1.keeps k hg,h2⟩
theorem NG.tail {w:World} {g o:Nat} {t:Tn} {us:List Tn} (h:NG w g o (t :: us)):NG w g (o+3) us:=by
 obtain ⟨cs,h1,h2⟩:=h;refine ⟨cs,h1,fun j u hu=>?_⟩;have:=h2 (j+1) u (by simpa using hu);rw [show o+(j+1) * 3=o+3+j * 3 by omega] at this;exact this
theorem NG.head {w:World} {g o:Nat} {t:Tn} {us:List Tn} (h:NG w g o (t :: us)):w.cell? ⟨g,o,none⟩=some (.string (AW t.g))∧w.cell? ⟨g,o+1,none⟩=some (.string (BF t.g))∧w.cell? ⟨g,o+2,none⟩=some (.int .i64 t.line):=by
 obtain ⟨cs,h1,h2⟩:=h;obtain ⟨a,b,c⟩:=h2 0 t rfl;exact ⟨by rw [h1.cell];exact a,by rw [h1.cell];exact b,by rw [h1.cell];exact c⟩
def IA (w:World) (b g:Nat) (us:List Tn):Prop:=∃ o c,AM w b #[.slice (some ⟨g,o,none⟩) us.length c]∧us.length≤c∧NG w g o us∧g≠b
theorem IA.keeps {w w':World} {b g:Nat} {us:List Tn} {T:List Nat} (h:IA w b g us) (k:AA T w w') (hb:b∉T) (hg:g∉T):IA w' b g us:=by
 obtain ⟨o,c,h1,h2,h3,h4⟩:=h;exact ⟨o,c,h1.keeps k hb,h2,h3.keeps k hg,h4⟩
theorem IA.lt {w:World} {b g:Nat} {us:List Tn} (h:IA w b g us):b<w.heap.size∧g<w.heap.size:=by
 obtain ⟨o,c,h1,h2,⟨cs,h3,_⟩,h4⟩:=h;exact ⟨h1.lt,h3.lt⟩
theorem Lc {w:World} {b g:Nat} {k:ByteArray} {p:Sg→Bool} (hk:Gi k p) {us:List Tn} (h:IA w b g us) (hne:us≠[]) (hl:us.length≤1000000):Calls Tryz.prog 198 #[.pointer (some ⟨b,0,none⟩),.string k] w fun e w'=>e=.returned (.bool (FB p us))∧w' = w:=by
 cases us with
 | nil=>exact absurd rfl hne
 | cons t us=>
  obtain ⟨o,c,hb,hc,ht,hg⟩:=h;obtain ⟨c0,c1,c2⟩:=ht.head;have hcell:=hb.cell 0;have hlI:(0:Int)<((t :: us).length:Nat):=by simp
  have hs:FB p (t :: us)=((AW t.g).toList == k.toList):=(hk t.g).symm;rw [hs];generalize (t :: us).length=n at *;clear hs hb ht;go_in
  go_wp2_with fail
  go_ret
  exact ⟨rfl,rfl⟩
def XT (b g:Nat) (r:Except Nat (Tn×List Tn)) (e:Ending) (w':World):Prop:=match r with
 | .ok (t,us)=>e=.returned (Db t)∧IA w' b g us
 | .error l=>e=C2 5 l
theorem Od (w:World) (a:Addr) (v:Value):(w.setCell a v).heap.size=w.heap.size:=by simp [World.setCell]
theorem EU {fn:Func} {p:Tmp} {ty:TypeId} (h:fn.results=#[.cell p ty]) (tmps:Array Value) {w:World} {g:Nat} {cs:Array Value} {fs:Array Field} (hc:AM w g cs) (hu:Tryz.prog.underlying ty=some (.struct fs)) (hi:(Tryz.prog.info? ty).map (·.size)=some cs.size) (hp:tmps.getD p undef=.pointer (some ⟨g,0,none⟩)):(results fn tmps).run Tryz.prog w=.ok (.agg cs) w:=by
 obtain ⟨t,ht⟩:=hc;exact results_cell_row h tmps w g t cs (0,0) _ hp ht hu rfl hi
theorem OA:(Tryz.prog.info? 129).map (·.size)=some 3:=by kernel_rfl
theorem Bp {w:World} {b g:Nat} {k:ByteArray} {p:Sg→Bool} (hk:Gi k p) (hf:Ew p) {us:List Tn} (h:IA w b g us) (he:CX us) (hl:us.length≤1000000):Calls Tryz.prog 250 #[.pointer (some ⟨b,0,none⟩),.string k] w fun e w'=>XT b g (Cc p us) e w'∧AA [b] w w':=by
 cases us with
 | nil=>obtain ⟨_,_,h⟩:=he.cons;cases h
 | cons t us=>
  obtain ⟨o,c,hb,hc,ht,hg⟩:=h;obtain ⟨c0,c1,c2⟩:=ht.head;have hs:=hk t.g;have k1:=AA.alloc [] w (.cells #[.string ⟨#[]⟩,.string ⟨#[]⟩,.int .i64 0] 129);have hb1:=hb.keeps k1;have ht1:=ht.keeps k1;obtain ⟨d0,d1,d2⟩:=ht1.head;have k2:=k1.trans (AA.alloc [] (w.alloc (.cells #[.string ⟨#[]⟩,.string ⟨#[]⟩,.int .i64 0] 129)) (.cells #[.string (AW t.g),.string (BF t.g),.int .i64 t.line] 129));have hb2:=hb.keeps k2;have f2:=hb2.frozen 0;have hcell1:=hb1.cell 0;have hcell2:=hb2.cell 0;have hlI:(0:Int)<((t :: us).length:Nat):=by simp
  have hl1:(1:Int)≤((t :: us).length:Nat):=by simp;omega
  have hnl:us.length=(t :: us).length - 1:=by simp
  generalize hn:(t :: us).length=n at *;cases hp:p t.g with
  | false=>
   rw [hp] at hs;have hg5:=AD (fun w=>Et (w:=w) 5 t.line);have hr:Cc p (t :: us)=.error t.line:=by simp only [Cc];rw [if_neg (by rw [hp];decide)]
   rw [hr];have k3:=AD (k2.mono (T':=[b]) (by simp));clear k2 k1 hr ht ht1 hb hb1 hb2 hn he hnl c0 c1 c2 hk;go_in
   go_wp2_with fail
   refine (hg5.out _).mono ?_;rintro e w1 ⟨rfl,rfl⟩;exact ⟨rfl,rfl,k3.out⟩
  | true=>
   rw [hp] at hs;have hr:Cc p (t :: us)=.ok (t,us):=by simp only [Cc];rw [if_pos hp]
   rw [hr];have hblt:=hb.lt;have hu2:us≠[]:=by obtain ⟨_,_,h⟩:=(he.tail (hf.no hp)).cons;rw [h];simp
   have hn2:2≤n:=by rw [←hn];cases us with | nil=>exact absurd rfl hu2 | cons _ _=>simp
   have hc1:¬ c=1:=(by omega);have hglt:g<w.heap.size:=by obtain ⟨cs,h,_⟩:=ht;exact h.lt
   have Hb:=AD hb;have Ht:=AD ht;have Hnl:=AD hnl;clear ht ht1 hb hb1 hb2 hn he hnl c0 c1 c2 hk k1 k2 hr hp;go_in
   go_wp2_with fail
   have hA:=((AM.new (w.setCell ⟨b,0,none⟩ (.slice (some ⟨g,o+3,none⟩) (n - 1) (c - 1))) #[.string (AW t.g),.string (BF t.g),.int .i64 t.line] 129).keeps (AA.alloc [] _ (.cells #[.string (AW t.g),.string (BF t.g),.int .i64 t.line] 129)));rw [Od] at hA;have kF:=(AA.setCell w ⟨b,0,none⟩ (.slice (some ⟨g,o+3,none⟩) (n - 1) (c - 1))).trans (((AA.alloc [b] (w.setCell ⟨b,0,none⟩ (.slice (some ⟨g,o+3,none⟩) (n - 1) (c - 1))) (.cells #[.string (AW t.g),.string (BF t.g),.int .i64 t.line] 129))).trans (AA.alloc [b] ((w.setCell ⟨b,0,none⟩ (.slice (some ⟨g,o+3,none⟩) (n - 1) (c - 1))).alloc (.cells #[.string (AW t.g),.string (BF t.g),.int .i64 t.line] 129)) (.cells #[.string (AW t.g),.string (BF t.g),.int .i64 t.line] 129)));have hb3:=((Hb.out.setCell 0 (.slice (some ⟨g,o+3,none⟩) (n - 1) (c - 1))).keeps (AA.alloc [] _ (.cells #[.string (AW t.g),.string (BF t.g),.int .i64 t.line] 129))).keeps (AA.alloc [] _ (.cells #[.string (AW t.g),.string (BF t.g),.int .i64 t.line] 129));refine bodyPost_ret (v:=Db t) (EU (p:=4) (ty:=129) (by kernel_rfl) _ hA Tryz.underlying129 OA rfl) rfl ⟨⟨rfl,o+3,c - 1,by rw [Hnl.out];exact hb3,by rw [Hnl.out];omega,Ht.out.tail.keeps kF (by simp;exact hg),hg⟩,kF⟩
structure Res3 (w:World) (r:Nat) (a0 a1 a2 x0 x1 x2:Value):Prop where
 c0:w.cell? ⟨r,0,none⟩=some a0
 f0:w.frozen? ⟨r,0,none⟩=false
 c1:(w.setCell ⟨r,0,none⟩ x0).cell? ⟨r,1,none⟩=some a1
 f1:(w.setCell ⟨r,0,none⟩ x0).frozen? ⟨r,1,none⟩=false
 c2:((w.setCell ⟨r,0,none⟩ x0).setCell ⟨r,1,none⟩ x1).cell? ⟨r,2,none⟩=some a2
 f2:((w.setCell ⟨r,0,none⟩ x0).setCell ⟨r,1,none⟩ x1).frozen? ⟨r,2,none⟩=false
 at_:AM (((w.setCell ⟨r,0,none⟩ x0).setCell ⟨r,1,none⟩ x1).setCell ⟨r,2,none⟩ x2) r #[x0,x1,x2]
 keep:AA [r] w (((w.setCell ⟨r,0,none⟩ x0).setCell ⟨r,1,none⟩ x1).setCell ⟨r,2,none⟩ x2)
theorem mS {w:World} {r:Nat} {a0 a1 a2:Value} (h:AM w r #[a0,a1,a2]) (x0 x1 x2:Value):Res3 w r a0 a1 a2 x0 x1 x2:=by
 have h1:=h.setCell 0 x0;have h2:=h1.setCell 1 x1;have h3:=h2.setCell 2 x2;exact ⟨h.cell 0,h.frozen 0,h1.cell 1,h1.frozen 1,h2.cell 2,h2.frozen 2,h3,(((AA.setCell w ⟨r,0,none⟩ x0).trans (AA.setCell (w.setCell ⟨r,0,none⟩ x0) ⟨r,1,none⟩ x1)).trans (AA.setCell ((w.setCell ⟨r,0,none⟩ x0).setCell ⟨r,1,none⟩ x1) ⟨r,2,none⟩ x2))⟩
structure Res4 (w:World) (r:Nat) (a0 a1 a2 a3 x0 x1 x2 x3:Value):Prop where
 c0:w.cell? ⟨r,0,none⟩=some a0
 f0:w.frozen? ⟨r,0,none⟩=false
 c1:(w.setCell ⟨r,0,none⟩ x0).cell? ⟨r,1,none⟩=some a1
 f1:(w.setCell ⟨r,0,none⟩ x0).frozen? ⟨r,1,none⟩=false
 c2:((w.setCell ⟨r,0,none⟩ x0).setCell ⟨r,1,none⟩ x1).cell? ⟨r,2,none⟩=some a2
 f2:((w.setCell ⟨r,0,none⟩ x0).setCell ⟨r,1,none⟩ x1).frozen? ⟨r,2,none⟩=false
 c3:(((w.setCell ⟨r,0,none⟩ x0).setCell ⟨r,1,none⟩ x1).setCell ⟨r,2,none⟩ x2).cell? ⟨r,3,none⟩=some a3
 f3:(((w.setCell ⟨r,0,none⟩ x0).setCell ⟨r,1,none⟩ x1).setCell ⟨r,2,none⟩ x2).frozen? ⟨r,3,none⟩=false
 at_:AM ((((w.setCell ⟨r,0,none⟩ x0).setCell ⟨r,1,none⟩ x1).setCell ⟨r,2,none⟩ x2).setCell ⟨r,3,none⟩ x3) r #[x0,x1,x2,x3]
 keep:AA [r] w ((((w.setCell ⟨r,0,none⟩ x0).setCell ⟨r,1,none⟩ x1).setCell ⟨r,2,none⟩ x2).setCell ⟨r,3,none⟩ x3)
theorem res4 {w:World} {r:Nat} {a0 a1 a2 a3:Value} (h:AM w r #[a0,a1,a2,a3]) (x0 x1 x2 x3:Value):Res4 w r a0 a1 a2 a3 x0 x1 x2 x3:=by
 have h1:=h.setCell 0 x0;have h2:=h1.setCell 1 x1;have h3:=h2.setCell 2 x2;have h4:=h3.setCell 3 x3;exact ⟨h.cell 0,h.frozen 0,h1.cell 1,h1.frozen 1,h2.cell 2,h2.frozen 2,h3.cell 3,h3.frozen 3,h4,((((AA.setCell w ⟨r,0,none⟩ x0).trans (AA.setCell (w.setCell ⟨r,0,none⟩ x0) ⟨r,1,none⟩ x1)).trans (AA.setCell ((w.setCell ⟨r,0,none⟩ x0).setCell ⟨r,1,none⟩ x1) ⟨r,2,none⟩ x2)).trans (AA.setCell (((w.setCell ⟨r,0,none⟩ x0).setCell ⟨r,1,none⟩ x1).setCell ⟨r,2,none⟩ x2) ⟨r,3,none⟩ x3))⟩
structure Res5 (w:World) (r:Nat) (a0 a1 a2 a3 a4 x0 x1 x2 x3 x4:Value):Prop where
 c0:w.cell? ⟨r,0,none⟩=some a0
 f0:w.frozen? ⟨r,0,none⟩=false
 c1:(w.setCell ⟨r,0,none⟩ x0).cell? ⟨r,1,none⟩=some a1
 f1:(w.setCell ⟨r,0,none⟩ x0).frozen? ⟨r,1,none⟩=false
 c2:((w.setCell ⟨r,0,none⟩ x0).setCell ⟨r,1,none⟩ x1).cell? ⟨r,2,none⟩=some a2
 f2:((w.setCell ⟨r,0,none⟩ x0).setCell ⟨r,1,none⟩ x1).frozen? ⟨r,2,none⟩=false
 c3:(((w.setCell ⟨r,0,none⟩ x0).setCell ⟨r,1,none⟩ x1).setCell ⟨r,2,none⟩ x2).cell? ⟨r,3,none⟩=some a3
 f3:(((w.setCell ⟨r,0,none⟩ x0).setCell ⟨r,1,none⟩ x1).setCell ⟨r,2,none⟩ x2).frozen? ⟨r,3,none⟩=false
 c4:((((w.setCell ⟨r,0,none⟩ x0).setCell ⟨r,1,none⟩ x1).setCell ⟨r,2,none⟩ x2).setCell ⟨r,3,none⟩ x3).cell? ⟨r,4,none⟩=some a4
 f4:((((w.setCell ⟨r,0,none⟩ x0).setCell ⟨r,1,none⟩ x1).setCell ⟨r,2,none⟩ x2).setCell ⟨r,3,none⟩ x3).frozen? ⟨r,4,none⟩=false
 at_:AM (((((w.setCell ⟨r,0,none⟩ x0).setCell ⟨r,1,none⟩ x1).setCell ⟨r,2,none⟩ x2).setCell ⟨r,3,none⟩ x3).setCell ⟨r,4,none⟩ x4) r #[x0,x1,x2,x3,x4]
 keep:AA [r] w (((((w.setCell ⟨r,0,none⟩ x0).setCell ⟨r,1,none⟩ x1).setCell ⟨r,2,none⟩ x2).setCell ⟨r,3,none⟩ x3).setCell ⟨r,4,none⟩ x4)
theorem iB {w:World} {r:Nat} {a0 a1 a2 a3 a4:Value} (h:AM w r #[a0,a1,a2,a3,a4]) (x0 x1 x2 x3 x4:Value):Res5 w r a0 a1 a2 a3 a4 x0 x1 x2 x3 x4:=by
 have h1:=h.setCell 0 x0;have h2:=h1.setCell 1 x1;have h3:=h2.setCell 2 x2;have h4:=h3.setCell 3 x3;have h5:=h4.setCell 4 x4;exact ⟨h.cell 0,h.frozen 0,h1.cell 1,h1.frozen 1,h2.cell 2,h2.frozen 2,h3.cell 3,h3.frozen 3,h4.cell 4,h4.frozen 4,h5,(((((AA.setCell w ⟨r,0,none⟩ x0).trans (AA.setCell (w.setCell ⟨r,0,none⟩ x0) ⟨r,1,none⟩ x1)).trans (AA.setCell ((w.setCell ⟨r,0,none⟩ x0).setCell ⟨r,1,none⟩ x1) ⟨r,2,none⟩ x2)).trans (AA.setCell (((w.setCell ⟨r,0,none⟩ x0).setCell ⟨r,1,none⟩ x1).setCell ⟨r,2,none⟩ x2) ⟨r,3,none⟩ x3)).trans (AA.setCell ((((w.setCell ⟨r,0,none⟩ x0).setCell ⟨r,1,none⟩ x1).setCell ⟨r,2,none⟩ x2).setCell ⟨r,3,none⟩ x3) ⟨r,4,none⟩ x4))⟩
theorem Rq {p:Sg→Bool} {us:List Tn} (h:FB p us=true):∃ t,Cc p us=.ok (t,us.tail):=by
 obtain ⟨t,_,_,h3⟩:=Vq h;exact ⟨t,h3⟩
theorem DN {w:World} {b g:Nat} {k:ByteArray} {p:Sg→Bool} (hk:Gi k p) (hf:Ew p) {us:List Tn} (h:IA w b g us) (he:CX us) (hl:us.length≤1000000):Calls Tryz.prog 249 #[.pointer (some ⟨b,0,none⟩),.string k] w fun e w'=>e=.returned (.bool (FB p us))∧IA w' b g (if FB p us then us.tail else us)∧AA [b] w w':=by
 have hne:us≠[]:=by obtain ⟨_,_,h⟩:=he.cons;rw [h];simp
 have h1:=AD (Lc hk h hne hl);have h2:=AD (Bp hk hf h he hl);cases hs:FB p us with
 | true=>
  obtain ⟨t,ht⟩:=Rq hs;rw [hs] at h1;rw [ht] at h2;clear h;go_in
  go_wp2_with fail
  refine h1.out.mono ?_;rintro e w1 ⟨rfl,rfl⟩;go_wp2_with fail
  refine h2.out.mono ?_;rintro e w1 ⟨⟨rfl,hp⟩,k1⟩;go_wp2_with fail
  go_ret
  exact ⟨rfl,hp,k1⟩
 | false=>
  rw [hs] at h1;have hP:=AD h;clear h h2;go_in
  go_wp2_with fail
  refine h1.out.mono ?_;rintro e w1 ⟨rfl,rfl⟩;go_wp2_with fail
  go_ret
  exact ⟨rfl,hP.out,AA.refl _ _⟩
theorem Dt (w:World) {b g:Nat} {us:List Tn} (h:IA w b g us) (o:Obj):IA (w.alloc o) b g us:=h.keeps (AA.alloc [] w o) (by simp) (by simp)
theorem Su {w:World} {b g:Nat} {us:List Tn} (h:IA w b g us) (he:CX us) (hl:us.length≤1000000):Calls Tryz.prog 252 #[.pointer (some ⟨b,0,none⟩)] w fun e w'=>XT b g (Cc DE us) e w'∧AA [b] w w':=by
 have h2:=AD (Bp GY rfl (Dt w h (.cells #[.string ⟨#[]⟩,.string ⟨#[]⟩,.int .i64 0] 129)) he hl);have kA:=AA.alloc [b] w (.cells #[.string ⟨#[]⟩,.string ⟨#[]⟩,.int .i64 0] 129);have hA:=AM.new w #[.string ⟨#[]⟩,.string ⟨#[]⟩,.int .i64 0] 129;obtain ⟨hblt,hglt⟩:=h.lt;cases hr:Cc DE us with
 | error l=>
  rw [hr] at h2;go_in
  go_wp2_with fail
  refine h2.out.mono ?_;rintro e w1 ⟨rfl,k1⟩;exact ⟨rfl,rfl,kA.trans k1⟩
 | ok q=>
  obtain ⟨t,vs⟩:=q;rw [hr] at h2;go_in
  go_wp2_with fail
  refine h2.out.mono ?_;rintro e w1 ⟨⟨rfl,hp⟩,k1⟩;have hR:=mS (hA.keeps k1 (by simp;omega)) (.string (AW t.g)) (.string (BF t.g)) (.int .i64 t.line);obtain ⟨c0,f0,c1,f1,c2,f2,hat,hk⟩:=hR;have Hat:=AD hat;have Hk:=AD hk;clear hat hk;unfold Db;go_wp2_with fail
  refine bodyPost_ret (v:=Db t) (EU (p:=2) (ty:=129) (by kernel_rfl) _ Hat.out Tryz.underlying129 OA rfl) rfl ⟨⟨rfl,hp.keeps Hk.out (by simp;omega) (by simp;omega)⟩,(kA.trans k1).trans_new Hk.out (by simp)⟩
theorem Ye {us:List Tn}:Cc B1 us=if FB Ik us then Cc Ik us else Cc KV us:=by
 cases us with
 | nil=>rfl
 | cons t us=>
  simp only [Cc,FB];obtain ⟨g,l⟩:=t;cases g <;> simp [B1,Ik,KV]
theorem Vm {w:World} {b g:Nat} {us:List Tn} (h:IA w b g us) (he:CX us) (hl:us.length≤1000000):Calls Tryz.prog 298 #[.pointer (some ⟨b,0,none⟩)] w fun e w'=>XT b g (Cc B1 us) e w'∧AA [b] w w':=by
 have hne:us≠[]:=by obtain ⟨_,_,h⟩:=he.cons;rw [h];simp
 have h1:=AD (Lc dB (Dt w h (.cells #[.string ⟨#[]⟩,.string ⟨#[]⟩,.int .i64 0] 129)) hne hl);have h2:=AD (Bp dB rfl (Dt w h (.cells #[.string ⟨#[]⟩,.string ⟨#[]⟩,.int .i64 0] 129)) he hl);have h3:=AD (Bp SS rfl (Dt w h (.cells #[.string ⟨#[]⟩,.string ⟨#[]⟩,.int .i64 0] 129)) he hl);have kA:=AA.alloc [b] w (.cells #[.string ⟨#[]⟩,.string ⟨#[]⟩,.int .i64 0] 129);have hA:=AM.new w #[.string ⟨#[]⟩,.string ⟨#[]⟩,.int .i64 0] 129;obtain ⟨hblt,hglt⟩:=h.lt;clear h;rw [Ye];cases hs:FB Ik us with
 | true=>
  rw [if_pos rfl];rw [hs] at h1;cases hr:Cc Ik us with
  | error l=>
   rw [hr] at h2;go_in
   go_wp2_with fail
   refine h1.out.mono ?_;rintro e w1 ⟨rfl,rfl⟩;go_wp2_with fail
   refine h2.out.mono ?_;rintro e w1 ⟨rfl,k1⟩;exact ⟨rfl,rfl,kA.trans k1⟩
  | ok q=>
   obtain ⟨t,vs⟩:=q;rw [hr] at h2;go_in
   go_wp2_with fail
   refine h1.out.mono ?_;rintro e w1 ⟨rfl,rfl⟩;go_wp2_with fail
   refine h2.out.mono ?_;rintro e w1 ⟨⟨rfl,hp⟩,k1⟩;have hR:=mS (hA.keeps k1 (by simp;omega)) (.string (AW t.g)) (.string (BF t.g)) (.int .i64 t.line);obtain ⟨c0,f0,c1,f1,c2,f2,hat,hk⟩:=hR;have Hat:=AD hat;have Hk:=AD hk;clear hat hk;unfold Db;go_wp2_with fail
   refine bodyPost_ret (v:=Db t) (EU (p:=2) (ty:=129) (by kernel_rfl) _ Hat.out Tryz.underlying129 OA rfl) rfl ⟨⟨rfl,hp.keeps Hk.out (by simp;omega) (by simp;omega)⟩,(kA.trans k1).trans_new Hk.out (by simp)⟩
 | false=>
  rw [if_neg (by decide)];rw [hs] at h1;cases hr:Cc KV us with
  | error l=>
   rw [hr] at h3;go_in
   go_wp2_with fail
   refine h1.out.mono ?_;rintro e w1 ⟨rfl,rfl⟩;go_wp2_with fail
   refine h3.out.mono ?_;rintro e w1 ⟨rfl,k1⟩;exact ⟨rfl,rfl,kA.trans k1⟩
  | ok q=>
   obtain ⟨t,vs⟩:=q;rw [hr] at h3;go_in
   go_wp2_with fail
   refine h1.out.mono ?_;rintro e w1 ⟨rfl,rfl⟩;go_wp2_with fail
   refine h3.out.mono ?_;rintro e w1 ⟨⟨rfl,hp⟩,k1⟩;have hR:=mS (hA.keeps k1 (by simp;omega)) (.string (AW t.g)) (.string (BF t.g)) (.int .i64 t.line);obtain ⟨c0,f0,c1,f1,c2,f2,hat,hk⟩:=hR;have Hat:=AD hat;have Hk:=AD hk;clear hat hk;unfold Db;go_wp2_with fail
   refine bodyPost_ret (v:=Db t) (EU (p:=2) (ty:=129) (by kernel_rfl) _ Hat.out Tryz.underlying129 OA rfl) rfl ⟨⟨rfl,hp.keeps Hk.out (by simp;omega) (by simp;omega)⟩,(kA.trans k1).trans_new Hk.out (by simp)⟩
def fP (base b g:Nat) (r:Except Nat (List Tn×List Tn)) (e:Ending) (w':World):Prop:=match r with
 | .ok (ts,us)=>∃ v,e=.returned v∧w'.ownsRow base 129 3 v ts.length (Di ts)∧IA w' b g us
 | .error l=>e=C2 5 l
theorem aE {W:World} (t:Tn):∀ (j:Nat) (x:Value),(Mn t)[j]?=some x→(W.alloc (.cells #[.string (AW t.g),.string (BF t.g),.int .i64 t.line] 129)).cell? ((⟨W.heap.size,0,none⟩:Addr).add j)=some x:=Rb (a:=.string (AW t.g)) (b:=.string (BF t.g)) (c:=.int .i64 t.line)
theorem bB (W:World) (base:Nat) (t:Tn) (hb:base≤W.heap.size):(W.alloc (.cells #[.string (AW t.g),.string (BF t.g),.int .i64 t.line] 129)).ownsRow base 129 3 (.slice (some ⟨W.heap.size,0,none⟩) 1 1) 1 (Di [t]):=
 ⟨rfl,.inr ⟨W.heap.size,1,#[.string (AW t.g),.string (BF t.g),.int .i64 t.line],rfl,hb,(MapKept.heap_alloc W _).1,AS _,by unfold maxLen;omega,rfl,rfl⟩⟩
def aW:Option Value→Nat | some (.slice _ n _)=>n | _=>0
theorem IA.len {w:World} {b g:Nat} {us:List Tn} (h:IA w b g us):aW (w.cell? ⟨b,0,none⟩)=us.length:=by
 obtain ⟨o,c,h1,_⟩:=h;rw [h1.cell];rfl
def Hp (d:List Tn):Except Nat (List Tn×List Tn)→Except Nat (List Tn×List Tn)
 | .ok (r,us)=>.ok (d++r,us)
 | .error l=>.error l
theorem Uf {p:Sg→Bool} {us us1 us2:List Tn} {t1 t2:Tn} (h1:Cc Ni us=.ok (t1,us1)) (h2:Cc p us1=.ok (t2,us2)):FD p us=Hp [t2] (Em p us2.length us2):=by
 unfold FD;rw [h1];simp only;rw [h2];simp only;cases Em p us2.length us2 with
 | error l=>rfl
 | ok q=>obtain ⟨r,xs⟩:=q;rfl
theorem Uh {p:Sg→Bool} {us:List Tn} {l:Nat} (h1:Cc Ni us=.error l):FD p us=.error l:=by
 unfold FD;rw [h1]
theorem Ug {p:Sg→Bool} {us us1:List Tn} {t1:Tn} {l:Nat} (h1:Cc Ni us=.ok (t1,us1)) (h2:Cc p us1=.error l):FD p us=.error l:=by
 unfold FD;rw [h1];simp only;rw [h2]
theorem Ij {w:World} {b g:Nat} {us:List Tn} (h:IA w b g us) (he:CX us) (hl:us.length≤1000000):Calls Tryz.prog 251 #[.pointer (some ⟨b,0,none⟩),.func (.func 252) #[.pointer (some ⟨b,0,none⟩)] #[]] w fun e w'=>fP w.heap.size b g (FD DE us) e w'∧AA [b] w w':=by
 obtain ⟨i0,hi0,hz0,hz1,hz2⟩:=info_parts SY;have hT1:=AD (Bp lY rfl h he hl);have hOne:=AD (fun (w:World) (us:List Tn) (h:IA w b g us) (he:CX us) (hl:us.length≤1000000)=>Su h he hl);have hComma:=AD (fun (w:World) (us:List Tn) (h:IA w b g us) (he:CX us) (hl:us.length≤1000000)=>DN PB rfl h he hl);have hRp:=AD (fun (w:World) (us:List Tn) (h:IA w b g us) (he:CX us) (hl:us.length≤1000000)=>Bp lX rfl h he hl);obtain ⟨hblt,hglt⟩:=h.lt;clear h;cases hr1:Cc Ni us with
 | error l=>
  rw [hr1] at hT1;rw [Uh hr1];go_in
  go_wp2_with fail
  refine hT1.out.mono ?_;rintro e w1 ⟨rfl,k1⟩;exact ⟨rfl,rfl,k1⟩
 | ok q1=>
  obtain ⟨t1,us1⟩:=q1;rw [hr1] at hT1;have g1:=(BP KT he hr1).1;cases hr2:Cc DE us1 with
  | error l=>
   rw [Ug hr1 hr2];go_in
   go_wp2_with fail
   refine hT1.out.mono ?_;rintro e w1 ⟨⟨rfl,hp1⟩,k1⟩;have h2:=AD (hOne.out w1 us1 hp1 g1.2 (by have:=g1.1;omega));rw [hr2] at h2;go_wp2_with fail
   refine h2.out.mono ?_;rintro e w2 ⟨rfl,k2⟩;exact ⟨rfl,rfl,k1.trans k2⟩
  | ok q2=>
   obtain ⟨t2,us2⟩:=q2;have g2:=(BP (p:=DE) rfl g1.2 hr2).1;rw [Uf hr1 hr2];generalize hR2:Hp [t2] (Em DE us2.length us2)=R;have HR2:=AD hR2;clear hR2;go_in
   go_wp2_with fail
   refine hT1.out.mono ?_;rintro e w1 ⟨⟨rfl,hp1⟩,k1⟩;have h2:=AD (hOne.out w1 us1 hp1 g1.2 (by have:=g1.1;omega));rw [hr2] at h2;go_wp2_with fail
   refine h2.out.mono ?_;rintro e w2 ⟨⟨rfl,hp2⟩,k2⟩;have hrow:=bB w2 w.heap.size t2 (by have:=k1.size;have:=k2.size;omega);have kA:=AA.alloc [b] w2 (.cells #[.string (AW t2.g),.string (BF t2.g),.int .i64 t2.line] 129);have hp3:=Dt w2 hp2 (.cells #[.string (AW t2.g),.string (BF t2.g),.int .i64 t2.line] 129);have k3:AA [b] w (w2.alloc (.cells #[.string (AW t2.g),.string (BF t2.g),.int .i64 t2.line] 129)):=(k1.trans k2).trans kA;unfold Db;go_wp2_with fail
   go_loopw [5] (fun y wr=>∃ (k:Nat) (d vs:List Tn),wr.ownsRow w.heap.size 129 3 y d.length (Di d)∧IA wr b g vs∧CX vs∧vs.length≤k∧d.length+vs.length≤us.length∧AA [b] w wr∧Hp d (Em DE k vs)=R) (fun _ wr=>aW (wr.cell? ⟨b,0,none⟩))
   case atStart=>exact ⟨us2.length,[t2],us2,hrow,hp3,g2.2,AS _,by have:=g1.1;have:=g2.1;simp;omega,k3,HR2.out⟩
   case round=>
    obtain ⟨k,d,vs,own,hpv,hev,hkv,hdv,kr,hres⟩:=hrel;have hlen:=hpv.len;obtain ⟨k,rfl⟩:∃ k',k=k' + 1:=by obtain ⟨t,q,rfl⟩:=hev.cons;simp at hkv;exact ⟨k - 1,by omega⟩
    have hC:=AD (hComma.out wr vs hpv hev (by omega));have hpl:=AD hpv;rw [Em] at hres;cases hs:FB HO vs with
    | true=>
     rw [hs] at hC;rw [hs,if_pos rfl] at hres;have g3:=Cp Ea hev hs;cases hr3:Cc DE vs.tail with
     | error l=>
      rw [hr3] at hres;have Hres:=AD hres;clear hres hpv hlen;go_wp2_with fail
      refine hC.out.mono ?_;rintro e w3 ⟨rfl,hp4,k4⟩;have h5:=AD (hOne.out w3 vs.tail hp4 g3.2 (by have:=g3.1;omega));rw [hr3] at h5;go_wp2_with fail
      refine h5.out.mono ?_;rintro e w4 ⟨rfl,k5⟩;refine ⟨rfl,?_,(kr.trans k4).trans k5⟩;rw [←Hres.out];rfl
     | ok q3=>
      obtain ⟨t3,us3⟩:=q3;rw [hr3] at hres;have g4:=(BP (p:=DE) rfl g3.2 hr3).1;have hah:Hp (d++[t3]) (Em DE k us3)=R:=by
       rw [←hres]
       show _=Hp d (match Em DE k us3 with
        | .error l=>Except.error l
        | .ok (r,vs)=>.ok (t3 :: r,vs))
       cases Em DE k us3 with
       | error l=>rfl
       | ok q=>obtain ⟨r,xs⟩:=q;simp [Hp]
      have Hah:=AD hah;have hlen2:=AD hlen;clear hres hah hpv hlen;obtain ⟨ay,cy,rfl⟩:=Aj own;go_wp2_with fail
      refine hC.out.mono ?_;rintro e w3 ⟨rfl,hp4,k4⟩;have h5:=AD (hOne.out w3 vs.tail hp4 g3.2 (by have:=g3.1;omega));rw [hr3] at h5;go_wp2_with fail
      refine h5.out.mono ?_;rintro e w4 ⟨⟨rfl,hp5⟩,k5⟩;have hnb:∀ j,(Value.slice ay d.length cy).ownBlock=some j→j≠b∧j≠g:=fun j hj=>by have:=(Am own j hj).1;omega
      have kB:=(k4.trans k5).trans (AA.alloc [b] w4 (.cells #[.string (AW t3.g),.string (BF t3.g),.int .i64 t3.line] 129));have ownB:=AI own kB (fun j hj h=>(hnb j hj).1 (by simpa using h));have hp6:=Dt w4 hp5 (.cells #[.string (AW t3.g),.string (BF t3.g),.int .i64 t3.line] 129);have hone:=aE (W:=w4) t3;have hszB:w.heap.size≤(w4.alloc (.cells #[.string (AW t3.g),.string (BF t3.g),.int .i64 t3.line] 129)).heap.size:=by rw [AY];have:=kr.size;have:=k4.size;have:=k5.size;omega
      unfold Db;go_wp2_with (at_builtin;refine wpList_append_own_at _ rfl _ _ 125 rfl w.heap.size 129 i0 (.agg #[.string ⟨#[]⟩,.string ⟨#[]⟩,.int .i64 0]) 3 40 Tryz.underlying125 hi0 hz0 hz1 hz2 rfl (by decide) _ d.length (Di d) rfl ownB ⟨w4.heap.size,0,none⟩ 1 1 [.string (AW t3.g),.string (BF t3.g),.int .i64 t3.line] rfl (by simp) hone (by simp [Value.oneCell']) (by unfold maxLen;omega) (by omega) hszB ?_)
      intro v' W2 own2 grow2 nil2 at2;have k2':=grownBy_keeps' grow2 (Value.slice ay d.length cy).ownBlock.toList (fun r e=>.inl (by simp [e]));have kf:AA [b] w W2:=(kr.trans kB).trans_new k2' fun j hj=>.inr (Am own j (by simpa using hj)).1;have hp7:IA W2 b g us3:=hp6.keeps k2' (fun h=>(hnb b (by simpa using h)).1 rfl) (fun h=>(hnb g (by simpa using h)).2 rfl);have hlen7:=AD hp7.len;have Hp7:=AD hp7;clear hp7;go_wp2_with fail
      go_roundw
      ·exact ⟨k,d++[t3],us3,by rw [JH,AN];exact own2,Hp7.out,g4.2,by have:=g3.1;have:=g4.1;omega,by have:=g3.1;have:=g4.1;rw [AN,Ak];omega,kf,Hah.out⟩
      ·rw [hlen7.out,hlen2.out];have:=g3.1;have:=g4.1;omega
    | false=>
     rw [hs] at hC;rw [hs,if_neg (by decide)] at hres;cases hr3:Cc Uu vs with
     | error l=>
      rw [hr3] at hres;have Hres:=AD hres;clear hres hpv hlen;go_wp2_with fail
      refine hC.out.mono ?_;rintro e w3 ⟨rfl,hp4,k4⟩;have h5:=AD (hRp.out w3 vs hp4 hev (by omega));rw [hr3] at h5;go_wp2_with fail
      refine h5.out.mono ?_;rintro e w4 ⟨rfl,k5⟩;refine ⟨rfl,?_,(kr.trans k4).trans k5⟩;rw [←Hres.out];rfl
     | ok q3=>
      obtain ⟨t3,us3⟩:=q3;rw [hr3] at hres;have Hres:=AD hres;clear hres hpv hlen;go_wp2_with fail
      refine hC.out.mono ?_;rintro e w3 ⟨rfl,hp4,k4⟩;have h5:=AD (hRp.out w3 vs hp4 hev (by omega));rw [hr3] at h5;go_wp2_with fail
      refine h5.out.mono ?_;rintro e w4 ⟨⟨rfl,hp5⟩,k5⟩;go_wp2_with fail
      go_ret
      refine ⟨?_,(kr.trans k4).trans k5⟩;rw [←Hres.out];refine ⟨_,rfl,?_,hp5⟩;rw [Be];exact AI own (k4.trans k5) (fun j hj h=>by have:=(Am own j hj).1;have e:j=b:=(by simpa using h);omega)
theorem LN {w:World} {b g:Nat} {us:List Tn} (h:IA w b g us) (he:CX us) (hl:us.length≤1000000):Calls Tryz.prog 251 #[.pointer (some ⟨b,0,none⟩),.func (.func 298) #[.pointer (some ⟨b,0,none⟩)] #[]] w fun e w'=>fP w.heap.size b g (FD B1 us) e w'∧AA [b] w w':=by
 obtain ⟨i0,hi0,hz0,hz1,hz2⟩:=info_parts SY;have hT1:=AD (Bp lY rfl h he hl);have hOne:=AD (fun (w:World) (us:List Tn) (h:IA w b g us) (he:CX us) (hl:us.length≤1000000)=>Vm h he hl);have hComma:=AD (fun (w:World) (us:List Tn) (h:IA w b g us) (he:CX us) (hl:us.length≤1000000)=>DN PB rfl h he hl);have hRp:=AD (fun (w:World) (us:List Tn) (h:IA w b g us) (he:CX us) (hl:us.length≤1000000)=>Bp lX rfl h he hl);obtain ⟨hblt,hglt⟩:=h.lt;clear h;cases hr1:Cc Ni us with
 | error l=>
  rw [hr1] at hT1;rw [Uh hr1];go_in
  go_wp2_with fail
  refine hT1.out.mono ?_;rintro e w1 ⟨rfl,k1⟩;exact ⟨rfl,rfl,k1⟩
 | ok q1=>
  obtain ⟨t1,us1⟩:=q1;rw [hr1] at hT1;have g1:=(BP KT he hr1).1;cases hr2:Cc B1 us1 with
  | error l=>
   rw [Ug hr1 hr2];go_in
   go_wp2_with fail
   refine hT1.out.mono ?_;rintro e w1 ⟨⟨rfl,hp1⟩,k1⟩;have h2:=AD (hOne.out w1 us1 hp1 g1.2 (by have:=g1.1;omega));rw [hr2] at h2;go_wp2_with fail
   refine h2.out.mono ?_;rintro e w2 ⟨rfl,k2⟩;exact ⟨rfl,rfl,k1.trans k2⟩
  | ok q2=>
   obtain ⟨t2,us2⟩:=q2;have g2:=(BP (p:=B1) rfl g1.2 hr2).1;rw [Uf hr1 hr2];generalize hR2:Hp [t2] (Em B1 us2.length us2)=R;have HR2:=AD hR2;clear hR2;go_in
   go_wp2_with fail
   refine hT1.out.mono ?_;rintro e w1 ⟨⟨rfl,hp1⟩,k1⟩;have h2:=AD (hOne.out w1 us1 hp1 g1.2 (by have:=g1.1;omega));rw [hr2] at h2;go_wp2_with fail
   refine h2.out.mono ?_;rintro e w2 ⟨⟨rfl,hp2⟩,k2⟩;have hrow:=bB w2 w.heap.size t2 (by have:=k1.size;have:=k2.size;omega);have kA:=AA.alloc [b] w2 (.cells #[.string (AW t2.g),.string (BF t2.g),.int .i64 t2.line] 129);have hp3:=Dt w2 hp2 (.cells #[.string (AW t2.g),.string (BF t2.g),.int .i64 t2.line] 129);have k3:AA [b] w (w2.alloc (.cells #[.string (AW t2.g),.string (BF t2.g),.int .i64 t2.line] 129)):=(k1.trans k2).trans kA;unfold Db;go_wp2_with fail
   go_loopw [5] (fun y wr=>∃ (k:Nat) (d vs:List Tn),wr.ownsRow w.heap.size 129 3 y d.length (Di d)∧IA wr b g vs∧CX vs∧vs.length≤k∧d.length+vs.length≤us.length∧AA [b] w wr∧Hp d (Em B1 k vs)=R) (fun _ wr=>aW (wr.cell? ⟨b,0,none⟩))
   case atStart=>exact ⟨us2.length,[t2],us2,hrow,hp3,g2.2,AS _,by have:=g1.1;have:=g2.1;simp;omega,k3,HR2.out⟩
   case round=>
    obtain ⟨k,d,vs,own,hpv,hev,hkv,hdv,kr,hres⟩:=hrel;have hlen:=hpv.len;obtain ⟨k,rfl⟩:∃ k',k=k' + 1:=by obtain ⟨t,q,rfl⟩:=hev.cons;simp at hkv;exact ⟨k - 1,by omega⟩
    have hC:=AD (hComma.out wr vs hpv hev (by omega));have hpl:=AD hpv;rw [Em] at hres;cases hs:FB HO vs with
    | true=>
     rw [hs] at hC;rw [hs,if_pos rfl] at hres;have g3:=Cp Ea hev hs;cases hr3:Cc B1 vs.tail with
     | error l=>
      rw [hr3] at hres;have Hres:=AD hres;clear hres hpv hlen;go_wp2_with fail
      refine hC.out.mono ?_;rintro e w3 ⟨rfl,hp4,k4⟩;have h5:=AD (hOne.out w3 vs.tail hp4 g3.2 (by have:=g3.1;omega));rw [hr3] at h5;go_wp2_with fail
      refine h5.out.mono ?_;rintro e w4 ⟨rfl,k5⟩;refine ⟨rfl,?_,(kr.trans k4).trans k5⟩;rw [←Hres.out];rfl
     | ok q3=>
      obtain ⟨t3,us3⟩:=q3;rw [hr3] at hres;have g4:=(BP (p:=B1) rfl g3.2 hr3).1;have hah:Hp (d++[t3]) (Em B1 k us3)=R:=by
       rw [←hres]
       show _=Hp d (match Em B1 k us3 with
        | .error l=>Except.error l
        | .ok (r,vs)=>.ok (t3 :: r,vs))
       cases Em B1 k us3 with
       | error l=>rfl
       | ok q=>obtain ⟨r,xs⟩:=q;simp [Hp]
      have Hah:=AD hah;have hlen2:=AD hlen;clear hres hah hpv hlen;obtain ⟨ay,cy,rfl⟩:=Aj own;go_wp2_with fail
      refine hC.out.mono ?_;rintro e w3 ⟨rfl,hp4,k4⟩;have h5:=AD (hOne.out w3 vs.tail hp4 g3.2 (by have:=g3.1;omega));rw [hr3] at h5;go_wp2_with fail
      refine h5.out.mono ?_;rintro e w4 ⟨⟨rfl,hp5⟩,k5⟩;have hnb:∀ j,(Value.slice ay d.length cy).ownBlock=some j→j≠b∧j≠g:=fun j hj=>by have:=(Am own j hj).1;omega
      have kB:=(k4.trans k5).trans (AA.alloc [b] w4 (.cells #[.string (AW t3.g),.string (BF t3.g),.int .i64 t3.line] 129));have ownB:=AI own kB (fun j hj h=>(hnb j hj).1 (by simpa using h));have hp6:=Dt w4 hp5 (.cells #[.string (AW t3.g),.string (BF t3.g),.int .i64 t3.line] 129);have hone:=aE (W:=w4) t3;have hszB:w.heap.size≤(w4.alloc (.cells #[.string (AW t3.g),.string (BF t3.g),.int .i64 t3.line] 129)).heap.size:=by rw [AY];have:=kr.size;have:=k4.size;have:=k5.size;omega
      unfold Db;go_wp2_with (at_builtin;refine wpList_append_own_at _ rfl _ _ 125 rfl w.heap.size 129 i0 (.agg #[.string ⟨#[]⟩,.string ⟨#[]⟩,.int .i64 0]) 3 40 Tryz.underlying125 hi0 hz0 hz1 hz2 rfl (by decide) _ d.length (Di d) rfl ownB ⟨w4.heap.size,0,none⟩ 1 1 [.string (AW t3.g),.string (BF t3.g),.int .i64 t3.line] rfl (by simp) hone (by simp [Value.oneCell']) (by unfold maxLen;omega) (by omega) hszB ?_)
      intro v' W2 own2 grow2 nil2 at2;have k2':=grownBy_keeps' grow2 (Value.slice ay d.length cy).ownBlock.toList (fun r e=>.inl (by simp [e]));have kf:AA [b] w W2:=(kr.trans kB).trans_new k2' fun j hj=>.inr (Am own j (by simpa using hj)).1;have hp7:IA W2 b g us3:=hp6.keeps k2' (fun h=>(hnb b (by simpa using h)).1 rfl) (fun h=>(hnb g (by simpa using h)).2 rfl);have hlen7:=AD hp7.len;have Hp7:=AD hp7;clear hp7;go_wp2_with fail
      go_roundw
      ·exact ⟨k,d++[t3],us3,by rw [JH,AN];exact own2,Hp7.out,g4.2,by have:=g3.1;have:=g4.1;omega,by have:=g3.1;have:=g4.1;rw [AN,Ak];omega,kf,Hah.out⟩
      ·rw [hlen7.out,hlen2.out];have:=g3.1;have:=g4.1;omega
    | false=>
     rw [hs] at hC;rw [hs,if_neg (by decide)] at hres;cases hr3:Cc Uu vs with
     | error l=>
      rw [hr3] at hres;have Hres:=AD hres;clear hres hpv hlen;go_wp2_with fail
      refine hC.out.mono ?_;rintro e w3 ⟨rfl,hp4,k4⟩;have h5:=AD (hRp.out w3 vs hp4 hev (by omega));rw [hr3] at h5;go_wp2_with fail
      refine h5.out.mono ?_;rintro e w4 ⟨rfl,k5⟩;refine ⟨rfl,?_,(kr.trans k4).trans k5⟩;rw [←Hres.out];rfl
     | ok q3=>
      obtain ⟨t3,us3⟩:=q3;rw [hr3] at hres;have Hres:=AD hres;clear hres hpv hlen;go_wp2_with fail
      refine hC.out.mono ?_;rintro e w3 ⟨rfl,hp4,k4⟩;have h5:=AD (hRp.out w3 vs hp4 hev (by omega));rw [hr3] at h5;go_wp2_with fail
      refine h5.out.mono ?_;rintro e w4 ⟨⟨rfl,hp5⟩,k5⟩;go_wp2_with fail
      go_ret
      refine ⟨?_,(kr.trans k4).trans k5⟩;rw [←Hres.out];refine ⟨_,rfl,?_,hp5⟩;rw [Be];exact AI own (k4.trans k5) (fun j hj h=>by have:=(Am own j hj).1;have e:j=b:=(by simpa using h);omega)
theorem Bg {w:World} {base base':Nat} {e:TypeId} {size:Nat} {v:Value} {n:Nat} {xs:List Value} (h:w.ownsRow base e size v n xs) (hb:base'≤base):w.ownsRow base' e size v n xs:=by
 obtain ⟨h1,h2⟩:=h;refine ⟨h1,?_⟩;rcases h2 with h2 | ⟨g,cap,cur,h3,h4,h5⟩
 ·exact .inl h2
 ·exact .inr ⟨g,cap,cur,h3,by omega,h5⟩
theorem gM:(Tryz.prog.info? 327).map (·.size)=some 4:=by kernel_rfl
theorem Xk:(Tryz.prog.info? 353).map (·.size)=some 5:=by kernel_rfl
def nS (base b g:Nat) (r:Except Nat (Dz×List Tn)) (e:Ending) (w':World):Prop:=match r with
 | .ok (a,us)=>∃ v,e=.returned (.agg #[.string (AW a.name.g),.string (BF a.name.g),.int .i64 a.name.line,v])∧w'.ownsRow base 129 3 v a.terms.length (Di a.terms)∧IA w' b g us
 | .error l=>e=C2 5 l
theorem HW {w:World} {b g:Nat} {us:List Tn} (h:IA w b g us) (he:CX us) (hl:us.length≤1000000):Calls Tryz.prog 289 #[.pointer (some ⟨b,0,none⟩)] w fun e w'=>nS w.heap.size b g (Fu us) e w'∧AA [b] w w':=by
 have h2:=AD (Bp GY rfl (Dt w h (.cells #[.string ⟨#[]⟩,.string ⟨#[]⟩,.int .i64 0,.slice none 0 0] 327)) he hl);have kA:=AA.alloc [b] w (.cells #[.string ⟨#[]⟩,.string ⟨#[]⟩,.int .i64 0,.slice none 0 0] 327);have hA:=AM.new w #[.string ⟨#[]⟩,.string ⟨#[]⟩,.int .i64 0,.slice none 0 0] 327;obtain ⟨hblt,hglt⟩:=h.lt;clear h;unfold Fu;cases hr:Cc DE us with
 | error l=>
  rw [hr] at h2;go_in
  go_wp2_with fail
  refine h2.out.mono ?_;rintro e w1 ⟨rfl,k1⟩;exact ⟨rfl,rfl,kA.trans k1⟩
 | ok q=>
  obtain ⟨t,vs⟩:=q;rw [hr] at h2;have g1:=(BP Dj he hr).1;simp only;cases hr2:FD B1 vs with
  | error l=>
   go_in
   go_wp2_with fail
   refine h2.out.mono ?_;rintro e w1 ⟨⟨rfl,hp1⟩,k1⟩;have h3:=AD (LN hp1 g1.2 (by have:=g1.1;omega));rw [hr2] at h3;go_wp2_with fail
   refine h3.out.mono ?_;rintro e w2 ⟨rfl,k2⟩;exact ⟨rfl,rfl,(kA.trans k1).trans k2⟩
  | ok q2=>
   obtain ⟨ts,us2⟩:=q2;go_in
   go_wp2_with fail
   refine h2.out.mono ?_;rintro e w1 ⟨⟨rfl,hp1⟩,k1⟩;have h3:=AD (LN hp1 g1.2 (by have:=g1.1;omega));rw [hr2] at h3;go_wp2_with fail
   refine h3.out.mono ?_;rintro e w2 ⟨⟨v,rfl,own,hp2⟩,k2⟩;have hsz1:w.heap.size+1≤w1.heap.size:=by have:=k1.size;rw [AY] at this;exact this
   have hR:=res4 (hA.keeps (k1.trans k2) (by simp;omega)) (.string (AW t.g)) (.string (BF t.g)) (.int .i64 t.line) v;obtain ⟨c0,f0,c1,f1,c2,f2,c3,f3,hat,hk⟩:=hR;have Hat:=AD hat;have Hk:=AD hk;obtain ⟨av,cv,hv⟩:=Aj own;subst hv;have Hown:=AD own;clear hat hk own;unfold Db;go_wp2_with fail
   refine bodyPost_ret (v:=.agg #[.string (AW t.g),.string (BF t.g),.int .i64 t.line,.slice av ts.length cv]) (EU (p:=2) (ty:=327) (by kernel_rfl) _ Hat.out Tryz.underlying327 gM rfl) rfl ⟨⟨_,rfl,?_,hp2.keeps Hk.out (by simp;omega) (by simp;omega)⟩,((kA.trans k1).trans k2).trans_new Hk.out (by simp)⟩;exact Bg (AI Hown.out Hk.out (fun j hj h=>by have:=(Am Hown.out j hj).1;have e:j=w.heap.size:=(by simpa using h);omega)) (by omega)
def LitTo (base b g:Nat) (r:Except Nat (Dp×List Tn)) (e:Ending) (w':World):Prop:=match r with
 | .ok (a,us)=>∃ v,e=.returned (.agg #[.string (AW a.atom.name.g),.string (BF a.atom.name.g),.int .i64 a.atom.name.line,v,.bool a.no])∧w'.ownsRow base 129 3 v a.atom.terms.length (Di a.atom.terms)∧IA w' b g us
 | .error l=>e=C2 5 l
theorem ZM {w:World} {b g:Nat} {us:List Tn} (h:IA w b g us) (he:CX us) (hl:us.length≤1000000):Calls Tryz.prog 290 #[.pointer (some ⟨b,0,none⟩)] w fun e w'=>LitTo w.heap.size b g (N5 us) e w'∧AA [b] w w':=by
 have h2:=AD (DN iT rfl (Dt w h (.cells #[.string ⟨#[]⟩,.string ⟨#[]⟩,.int .i64 0,.slice none 0 0,.bool false] 353)) he hl);have kA:=AA.alloc [b] w (.cells #[.string ⟨#[]⟩,.string ⟨#[]⟩,.int .i64 0,.slice none 0 0,.bool false] 353);have hA:=AM.new w #[.string ⟨#[]⟩,.string ⟨#[]⟩,.int .i64 0,.slice none 0 0,.bool false] 353;obtain ⟨hblt,hglt⟩:=h.lt;clear h;unfold N5;split
 ·rename_i hs;rw [hs] at h2;have hev:CX us.tail∧us.tail.length≤1000000:=by have g1:=Cp Lr he hs;exact ⟨g1.2,by have:=g1.1;omega⟩
  cases hr2:Fu us.tail with
  | error l=>
   go_in
   go_wp2_with fail
   refine h2.out.mono ?_;rintro e w1 ⟨rfl,hp1,k1⟩;have h3:=AD (HW (us:=us.tail) hp1 hev.1 hev.2);rw [hr2] at h3;go_wp2_with fail
   refine h3.out.mono ?_;rintro e w2 ⟨rfl,k2⟩;exact ⟨rfl,rfl,(kA.trans k1).trans k2⟩
  | ok q2=>
   obtain ⟨a,us2⟩:=q2;go_in
   go_wp2_with fail
   refine h2.out.mono ?_;rintro e w1 ⟨rfl,hp1,k1⟩;have h3:=AD (HW (us:=us.tail) hp1 hev.1 hev.2);rw [hr2] at h3;go_wp2_with fail
   refine h3.out.mono ?_;rintro e w2 ⟨⟨v,rfl,own,hp2⟩,k2⟩;have hsz1:w.heap.size+1≤w1.heap.size:=by have:=k1.size;rw [AY] at this;exact this
   have hR:=iB (hA.keeps (k1.trans k2) (by simp;omega)) (.string (AW a.name.g)) (.string (BF a.name.g)) (.int .i64 a.name.line) v (.bool true);obtain ⟨c0,f0,c1,f1,c2,f2,c3,f3,c4,f4,hat,hk⟩:=hR;have Hat:=AD hat;have Hk:=AD hk;obtain ⟨av,cv,hv⟩:=Aj own;subst hv;have Hown:=AD own;clear hat hk own;go_wp2_with fail
   refine bodyPost_ret (v:=.agg #[.string (AW a.name.g),.string (BF a.name.g),.int .i64 a.name.line,.slice av a.terms.length cv,.bool true]) (EU (p:=2) (ty:=353) (by kernel_rfl) _ Hat.out Tryz.underlying353 Xk rfl) rfl ⟨⟨_,rfl,?_,hp2.keeps Hk.out (by simp;omega) (by simp;omega)⟩,((kA.trans k1).trans k2).trans_new Hk.out (by simp)⟩;exact Bg (AI Hown.out Hk.out (fun j hj h=>by have:=(Am Hown.out j hj).1;have e:j=w.heap.size:=(by simpa using h);omega)) (by omega)
 ·rename_i hs;rw [Bool.not_eq_true] at hs;rw [hs] at h2;have hev:CX us∧us.length≤1000000:=⟨he,hl⟩;cases hr2:Fu us with
  | error l=>
   go_in
   go_wp2_with fail
   refine h2.out.mono ?_;rintro e w1 ⟨rfl,hp1,k1⟩;have h3:=AD (HW (us:=us) hp1 hev.1 hev.2);rw [hr2] at h3;go_wp2_with fail
   refine h3.out.mono ?_;rintro e w2 ⟨rfl,k2⟩;exact ⟨rfl,rfl,(kA.trans k1).trans k2⟩
  | ok q2=>
   obtain ⟨a,us2⟩:=q2;go_in
   go_wp2_with fail
   refine h2.out.mono ?_;rintro e w1 ⟨rfl,hp1,k1⟩;have h3:=AD (HW (us:=us) hp1 hev.1 hev.2);rw [hr2] at h3;go_wp2_with fail
   refine h3.out.mono ?_;rintro e w2 ⟨⟨v,rfl,own,hp2⟩,k2⟩;have hsz1:w.heap.size+1≤w1.heap.size:=by have:=k1.size;rw [AY] at this;exact this
   have hR:=iB (hA.keeps (k1.trans k2) (by simp;omega)) (.string (AW a.name.g)) (.string (BF a.name.g)) (.int .i64 a.name.line) v (.bool false);obtain ⟨c0,f0,c1,f1,c2,f2,c3,f3,c4,f4,hat,hk⟩:=hR;have Hat:=AD hat;have Hk:=AD hk;obtain ⟨av,cv,hv⟩:=Aj own;subst hv;have Hown:=AD own;clear hat hk own;go_wp2_with fail
   refine bodyPost_ret (v:=.agg #[.string (AW a.name.g),.string (BF a.name.g),.int .i64 a.name.line,.slice av a.terms.length cv,.bool false]) (EU (p:=2) (ty:=353) (by kernel_rfl) _ Hat.out Tryz.underlying353 Xk rfl) rfl ⟨⟨_,rfl,?_,hp2.keeps Hk.out (by simp;omega) (by simp;omega)⟩,((kA.trans k1).trans k2).trans_new Hk.out (by simp)⟩;exact Bg (AI Hown.out Hk.out (fun j hj h=>by have:=(Am Hown.out j hj).1;have e:j=w.heap.size:=(by simpa using h);omega)) (by omega)
def Ev (l:Dp) (v:Value):List Value:=[.string (AW l.atom.name.g),.string (BF l.atom.name.g),.int .i64 l.atom.name.line,v,.bool l.no]
theorem Ba {w:World} {base:Nat} {e:TypeId} {size n:Nat} {v:Value} {xs:List Value} (h:w.ownsRow base e size v n xs):∀ i,v.ownBlock=some i→base≤i∧i<w.heap.size:=fun i hi=>by
 obtain ⟨h1,cs,t,hh⟩:=Am h i hi;refine ⟨h1,?_⟩;rcases BL i w.heap.size with h | h
 ·exact h
 ·rw [CR h] at hh;cases hh
def Dl (w:World) (base:Nat) (X:List Nat):List Dp→List Value→Prop
 | [],cs=>cs=[]
 | l :: ls,cs=>∃ v rest,cs=Ev l v++rest∧w.ownsRow base 129 3 v l.atom.terms.length (Di l.atom.terms)∧(∀ j,v.ownBlock=some j→j∉X)∧Dl w base X ls rest
theorem Dl.keeps {w w':World} {base:Nat} {X T:List Nat} {ls:List Dp} {cs:List Value} (h:Dl w base X ls cs) (k:AA T w w') (hT:∀ j∈T,j∈X∨j<base∨w.heap.size≤j:=by simp):Dl w' base X ls cs:=by
 induction ls generalizing cs with
 | nil=>exact h
 | cons l ls ih=>
  obtain ⟨v,rest,h1,h2,h3,h4⟩:=h;refine ⟨v,rest,h1,AI h2 k (fun j hj hjT=>?_),h3,ih h4⟩;have:=Ba h2 j hj;rcases hT j hjT with h | h | h
  ·exact h3 j hj h
  ·omega
  ·omega
theorem Dl.apart {w:World} {base:Nat} {X Y:List Nat} {ls:List Dp} {cs:List Value} (h:Dl w base X ls cs) (hY:∀ j∈Y,j∈X∨w.heap.size≤j):Dl w base Y ls cs:=by
 induction ls generalizing cs with
 | nil=>exact h
 | cons l ls ih=>
  obtain ⟨v,rest,h1,h2,h3,h4⟩:=h;refine ⟨v,rest,h1,h2,fun j hj hjY=>?_,ih h4⟩;have:=Ba h2 j hj;rcases hY j hjY with h | h
  ·exact h3 j hj h
  ·omega
theorem Dl.snoc {w:World} {base:Nat} {X:List Nat} {ls:List Dp} {cs:List Value} (h:Dl w base X ls cs) {l:Dp} {v:Value} (h2:w.ownsRow base 129 3 v l.atom.terms.length (Di l.atom.terms)) (h3:∀ j,v.ownBlock=some j→j∉X):Dl w base X (ls++[l]) (cs++Ev l v):=by
 induction ls generalizing cs with
 | nil=>
  have:cs=[]:=h;subst this;exact ⟨v,[],by simp,h2,h3,rfl⟩
 | cons x ls ih=>
  obtain ⟨u,rest,h1,k2,k3,k4⟩:=h;exact ⟨u,rest++Ev l v,by rw [h1,Ag],k2,k3,ih k4⟩
theorem Dl.mono {w:World} {base base':Nat} {X:List Nat} {ls:List Dp} {cs:List Value} (h:Dl w base X ls cs) (hb:base'≤base):Dl w base' X ls cs:=by
 induction ls generalizing cs with
 | nil=>exact h
 | cons l ls ih=>
  obtain ⟨v,rest,h1,h2,h3,h4⟩:=h;exact ⟨v,rest,h1,Bg h2 hb,h3,ih h4⟩
structure CL (w:World) (rb cb b g:Nat) (nm:Tn) (terms:List Tn) (hv:Value) (d:List Dp) (lv:Value) (cs:List Value) (us:List Tn):Prop where
 res:AM w rb #[.string ⟨#[]⟩,.string ⟨#[]⟩,.int .i64 0,.slice none 0 0,.slice none 0 0]
 cl:AM w cb #[.string (AW nm.g),.string (BF nm.g),.int .i64 nm.line,hv,lv]
 rc:rb<cb
 low:b<rb∧g<rb
 head:w.ownsRow rb 129 3 hv terms.length (Di terms)
 headA:∀ j,hv.ownBlock=some j→j∉[rb,cb]∧lv.ownBlock≠some j
 lits:w.ownsRow rb 353 5 lv d.length cs
 litsA:∀ j,lv.ownBlock=some j→j∉[rb,cb]
 are:Dl w rb ([rb,cb]++lv.ownBlock.toList) d cs
 at_:IA w b g us
theorem CL.go {w w':World} {rb cb b g:Nat} {nm:Tn} {terms:List Tn} {hv:Value} {d:List Dp} {lv:Value} {cs:List Value} {us us':List Tn} (h:CL w rb cb b g nm terms hv d lv cs us) (k:AA [b] w w') (hp:IA w' b g us'):CL w' rb cb b g nm terms hv d lv cs us':=by
 have:=h.low;have:=h.rc;refine ⟨h.res.keeps k (by simp;omega),h.cl.keeps k (by simp;omega),h.rc,h.low,AI h.head k (fun j hj hT=>?_),h.headA,AI h.lits k (fun j hj hT=>?_),h.litsA,h.are.keeps k (fun j hj=>?_),hp⟩
 ·have:=(Am h.head j hj).1;have e:j=b:=(by simpa using hT);omega
 ·have:=(Am h.lits j hj).1;have e:j=b:=(by simpa using hT);omega
 ·have e:j=b:=(by simpa using hj);omega
theorem CL.drew {w:World} {rb cb b g:Nat} {nm:Tn} {terms:List Tn} {hv:Value} {d:List Dp} {lv:Value} {cs:List Value} {us:List Tn} (h:CL w rb cb b g nm terms hv d lv cs us):CL w.drew rb cb b g nm terms hv d lv cs us:=h.go (AA.drew _ _) (h.at_.keeps (AA.drew [] w) (by simp) (by simp))
theorem CL.push {w w2 w3:World} {rb cb b g:Nat} {nm:Tn} {terms:List Tn} {hv:Value} {d:List Dp} {lv:Value} {cs:List Value} {us:List Tn} (h:CL w rb cb b g nm terms hv d lv cs us) {l:Dp} {tv:Value} (hrow:w.ownsRow rb 129 3 tv l.atom.terms.length (Di l.atom.terms)) (hrowA:∀ j,tv.ownBlock=some j→j∉[rb,cb]++lv.ownBlock.toList∧j<w.heap.size)
  (k2:AA lv.ownBlock.toList w w2) {gg cap:Nat} (hgg:lv.ownBlock=some gg∨w.heap.size≤gg) (own:w2.ownsRow rb 353 5 (.slice (some ⟨gg,0,none⟩) (d.length+1) cap) (d.length+1) (cs++Ev l tv)) (hw3:w3=w2.setCell ⟨cb,4,none⟩ (.slice (some ⟨gg,0,none⟩) (d.length+1) cap)):CL w3 rb cb b g nm terms hv (d++[l]) (.slice (some ⟨gg,0,none⟩) (d.length+1) cap) (cs++Ev l tv) us:=by
 subst hw3;have hlow:=h.low;have hrc:=h.rc;have hcbl:=h.cl.lt;have hcl2:=h.cl.keeps k2 (fun hT=>h.litsA cb (by simpa using hT) (by simp));have hres2:=h.res.keeps k2 (fun hT=>h.litsA rb (by simpa using hT) (by simp));have hat2:=h.at_.keeps k2 (fun hT=>by have:=(Am h.lits b (by simpa using hT)).1;omega) (fun hT=>by have:=(Am h.lits g (by simpa using hT)).1;omega);have hggA:gg∉[rb,cb]:=by
  rcases hgg with e | e
  ·exact h.litsA gg e
  ·simp;omega
 have ks:=AA.setCell w2 ⟨cb,4,none⟩ (.slice (some ⟨gg,0,none⟩) (d.length+1) cap);have hh2:=AI h.head k2 (fun j hj hT=>(h.headA j hj).2 (by simpa using hT));have hY:∀ j∈[rb,cb]++[gg],j∈[rb,cb]++lv.ownBlock.toList∨w.heap.size≤j:=by
  intro j hj;rcases AC.1 hj with hj | hj
  ·exact .inl (AQ _ hj)
  ·have e:j=gg:=(by simpa using hj);rcases hgg with e' | e'
   ·left;rw [e,e'];simp
   ·right;omega
 refine ⟨hres2.keeps ks (by simp;omega),hcl2.setCell 4 _,h.rc,h.low,AI hh2 ks (fun j hj hT=>?_),fun j hj=>⟨(h.headA j hj).1,fun e=>?_⟩,?_,fun j hj=>?_,?_,hat2.keeps ks (by simp;omega) (by simp;omega)⟩
 ·have e:j=cb:=(by simpa using hT);exact (h.headA j hj).1 (by simp [e])
 ·have e:gg=j:=(by simpa [Value.ownBlock] using e);rcases hgg with e' | e'
  ·exact (h.headA j hj).2 (by rw [e',e])
  ·have:=(Ba h.head j hj).2;omega
 ·rw [AN,Ak];exact AI own ks (fun j hj hT=>by have e:j=cb:=(by simpa using hT);have e2:gg=j:=(by simpa [Value.ownBlock] using hj);exact hggA (by simp [e2,e]))
 ·have e:gg=j:=(by simpa [Value.ownBlock] using hj);rw [←e];exact hggA
 ·have are2:=(h.are.apart (Y:=[rb,cb]++[gg]++lv.ownBlock.toList) (fun j hj=>by
   rcases AC.1 hj with hj | hj
   ·exact hY j hj
   ·exact .inl (AT _ hj))).keeps k2 (fun j hj=>.inl (AT _ hj))
  have are3:=are2.snoc (l:=l) (v:=tv) (AI hrow k2 (fun j hj hT=>(hrowA j hj).1 (AT _ hT))) (fun j hj hT=>by
   rcases AC.1 hT with hT | hT
   ·rcases hY j hT with h' | h'
    ·exact (hrowA j hj).1 h'
    ·have:=(hrowA j hj).2;omega
   ·exact (hrowA j hj).1 (AT _ hT))
  have are4:=are3.keeps ks (fun j hj=>.inl (by have e:j=cb:=(by simpa using hj);simp [e]));refine are4.apart (fun j hj=>.inl ?_);simp [Value.ownBlock] at hj ⊢;rcases hj with h | h | h <;> simp [h]
end
end Go.Proofs.YtgjomknpjigkhaaGreatDoor
