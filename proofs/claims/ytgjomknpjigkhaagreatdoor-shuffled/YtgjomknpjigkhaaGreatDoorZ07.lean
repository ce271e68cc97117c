import Derived.Test.YtgjomknpjigkhaaGreatDoorZ05
import Derived.Laws.Rows
namespace Go.Proofs.YtgjomknpjigkhaaGreatDoor
set_option maxRecDepth 100000
set_option maxHeartbeats 4000000
section
open Go.RowKit
def GX (k:ByteArray) (p:Sg→Bool):Prop:=∀ g,((AV g).toList == k.toList)=p g
theorem Ed {k:ByteArray} {p:Sg→Bool} (h:∀ g,decide (AV g=k)=p g):GX k p:=fun g=>by
 rw [←h g,Bg,Vi,decide_eq_true_iff]
theorem GO:GX ⟨#[78,65,77,69]⟩ C8:=Ed fun g=>by cases g <;> first | rfl | decide
theorem SC:GX ⟨#[73,78,84]⟩ J6:=Ed fun g=>by cases g <;> first | rfl | decide
theorem cQ:GX ⟨#[86,65,82]⟩ IV:=Ed fun g=>by cases g <;> first | rfl | decide
theorem WQ:GX ⟨#[100,111,109]⟩ La:=Ed fun g=>by cases g <;> first | rfl | decide
theorem Mq:GX ⟨#[114,101,108]⟩ Ms:=Ed fun g=>by cases g <;> first | rfl | decide
theorem lI:GX ⟨#[40]⟩ NW:=Ed fun g=>by cases g <;> first | rfl | decide
theorem lH:GX ⟨#[41]⟩ Uc:=Ed fun g=>by cases g <;> first | rfl | decide
theorem O1:GX ⟨#[44]⟩ G3:=Ed fun g=>by cases g <;> first | rfl | decide
theorem N9:GX ⟨#[59]⟩ Kg:=Ed fun g=>by cases g <;> first | rfl | decide
theorem SD:GX ⟨#[46]⟩ LZ:=Ed fun g=>by cases g <;> first | rfl | decide
theorem iM:GX ⟨#[33]⟩ SG:=Ed fun g=>by cases g <;> first | rfl | decide
theorem cR:GX ⟨#[58,45]⟩ MB:=Ed fun g=>by cases g <;> first | rfl | decide
theorem mO:GX ⟨#[101,110,100]⟩ J7:=Ed fun g=>by cases g <;> first | rfl | decide
def Me (t:Tn):List Value:=[.string (AV t.g),.string (BB t.g),.int .i64 t.line]
def Da (t:Tn):Value:=.agg #[.string (AV t.g),.string (BB t.g),.int .i64 t.line]
def De (ts:List Tn):List Value:=ts.flatMap Me
theorem I5 (a b:List Tn):De (a++b)=De a++De b:=by simp [De]
def M3 (w:World) (g o:Nat) (us:List Tn):Prop:=∃ cs,AK w g cs∧∀ (j:Nat) (t:Tn),us[j]?=some t→cs[o+j * 3]?=some (.string (AV t.g))∧cs[o+j * 3+1]?=some (.string (BB t.g))∧cs[o+j * 3+2]?=some (.int .i64 t.line)
theorem M3.keeps {w w':World} {g o:Nat} {us:List Tn} {T:List Nat} (h:M3 w g o us) (k:AA T w w') (hg:g∉T:=by simp):M3 w' g o us:=by
 obtain ⟨cs,h1,h2⟩:=h;exact ⟨cs,h1.keeps k hg,h2⟩
theorem M3.tail {w:World} {g o:Nat} {t:Tn} {us:List Tn} (h:M3 w g o (t :: us)):M3 w g (o+3) us:=by
 obtain ⟨cs,h1,h2⟩:=h;refine ⟨cs,h1,fun j u hu=>?_⟩;have:=h2 (j+1) u (by simpa using hu);rw [show o+(j+1) * 3=o+3+j * 3 by omega] at this;exact this
theorem M3.head {w:World} {g o:Nat} {t:Tn} {us:List Tn} (h:M3 w g o (t :: us)):w.cell? ⟨g,o,none⟩=some (.string (AV t.g))∧w.cell? ⟨g,o+1,none⟩=some (.string (BB t.g))∧w.cell? ⟨g,o+2,none⟩=some (.int .i64 t.line):=by
 obtain ⟨cs,h1,h2⟩:=h;obtain ⟨a,b,c⟩:=h2 0 t rfl;exact ⟨by rw [h1.cell];exact a,by rw [h1.cell];exact b,by rw [h1.cell];exact c⟩
def HL (w:World) (b g:Nat) (us:List Tn):Prop:=∃ o c,AK w b #[.slice (some ⟨g,o,none⟩) us.length c]∧us.length≤c∧M3 w g o us∧g≠b
theorem HL.keeps {w w':World} {b g:Nat} {us:List Tn} {T:List Nat} (h:HL w b g us) (k:AA T w w') (hb:b∉T) (hg:g∉T):HL w' b g us:=by
 obtain ⟨o,c,h1,h2,h3,h4⟩:=h;exact ⟨o,c,h1.keeps k hb,h2,h3.keeps k hg,h4⟩
theorem HL.lt {w:World} {b g:Nat} {us:List Tn} (h:HL w b g us):b<w.heap.size∧g<w.heap.size:=by
 obtain ⟨o,c,h1,h2,⟨cs,h3,_⟩,h4⟩:=h;exact ⟨h1.lt,h3.lt⟩
theorem LJ {w:World} {b g:Nat} {k:ByteArray} {p:Sg→Bool} (hk:GX k p) {us:List Tn} (h:HL w b g us) (hne:us≠[]) (hl:us.length≤1000000):Calls Tryz.prog 198 #[.pointer (some ⟨b,0,none⟩),.string k] w fun e w'=>e=.returned (.bool (E1 p us))∧w' = w:=by
 cases us with
 | nil=>exact absurd rfl hne
 | cons t us=>
  obtain ⟨o,c,hb,hc,ht,hg⟩:=h;obtain ⟨c0,c1,c2⟩:=ht.head;have hcell:=hb.cell 0;have hlI:(0:Int)<((t :: us).length:Nat):=by simp
  have hs:E1 p (t :: us)=((AV t.g).toList == k.toList):=(hk t.g).symm;rw [hs];generalize (t :: us).length=n at *;clear hs hb ht;go_in
  go_wp2_with fail
  go_ret
  exact ⟨rfl,rfl⟩
def XC (b g:Nat) (r:Except Nat (Tn×List Tn)) (e:Ending) (w':World):Prop:=match r with
 | .ok (t,us)=>e=.returned (Da t)∧HL w' b g us
 | .error l=>e=Cx 5 l
theorem OR (w:World) (a:Addr) (v:Value):(w.setCell a v).heap.size=w.heap.size:=by simp [World.setCell]
theorem EO {fn:Func} {p:Tmp} {ty:TypeId} (h:fn.results=#[.cell p ty]) (tmps:Array Value) {w:World} {g:Nat} {cs:Array Value} {fs:Array Field} (hc:AK w g cs) (hu:Tryz.prog.underlying ty=some (.struct fs)) (hi:(Tryz.prog.info? ty).map (·.size)=some cs.size) (hp:tmps.getD p undef=.pointer (some ⟨g,0,none⟩)):(results fn tmps).run Tryz.prog w=.ok (.agg cs) w:=by
 obtain ⟨t,ht⟩:=hc;exact results_cell_row h tmps w g t cs (0,0) _ hp ht hu rfl hi
theorem N1:(Tryz.prog.info? 129).map (·.size)=some 3:=by kernel_rfl
theorem Bk {w:World} {b g:Nat} {k:ByteArray} {p:Sg→Bool} (hk:GX k p) (hf:Em p) {us:List Tn} (h:HL w b g us) (he:CV us) (hl:us.length≤1000000):Calls Tryz.prog 250 #[.pointer (some ⟨b,0,none⟩),.string k] w fun e w'=>XC b g (Ca p us) e w'∧AA [b] w w':=by
 cases us with
 | nil=>obtain ⟨_,_,h⟩:=he.cons;cases h
 | cons t us=>
  obtain ⟨o,c,hb,hc,ht,hg⟩:=h;obtain ⟨c0,c1,c2⟩:=ht.head;have hs:=hk t.g;have k1:=AA.alloc [] w (.cells #[.string ⟨#[]⟩,.string ⟨#[]⟩,.int .i64 0] 129);have hb1:=hb.keeps k1;have ht1:=ht.keeps k1;obtain ⟨d0,d1,d2⟩:=ht1.head;have k2:=k1.trans (AA.alloc [] (w.alloc (.cells #[.string ⟨#[]⟩,.string ⟨#[]⟩,.int .i64 0] 129)) (.cells #[.string (AV t.g),.string (BB t.g),.int .i64 t.line] 129));have hb2:=hb.keeps k2;have f2:=hb2.frozen 0;have hcell1:=hb1.cell 0;have hcell2:=hb2.cell 0;have hlI:(0:Int)<((t :: us).length:Nat):=by simp
  have hl1:(1:Int)≤((t :: us).length:Nat):=by simp;omega
  have hnl:us.length=(t :: us).length - 1:=by simp
  generalize hn:(t :: us).length=n at *;cases hp:p t.g with
  | false=>
   rw [hp] at hs;have hg5:=AD (fun w=>Ek (w:=w) 5 t.line);have hr:Ca p (t :: us)=.error t.line:=by simp only [Ca];rw [if_neg (by rw [hp];decide)]
   rw [hr];have k3:=AD (k2.mono (T':=[b]) (by simp));clear k2 k1 hr ht ht1 hb hb1 hb2 hn he hnl c0 c1 c2 hk;go_in
   go_wp2_with fail
   refine (hg5.out _).mono ?_;rintro e w1 ⟨rfl,rfl⟩;exact ⟨rfl,rfl,k3.out⟩
  | true=>
   rw [hp] at hs;have hr:Ca p (t :: us)=.ok (t,us):=by simp only [Ca];rw [if_pos hp]
   rw [hr];have hblt:=hb.lt;have hu2:us≠[]:=by obtain ⟨_,_,h⟩:=(he.tail (hf.no hp)).cons;rw [h];simp
   have hn2:2≤n:=by rw [←hn];cases us with | nil=>exact absurd rfl hu2 | cons _ _=>simp
   have hc1:¬ c=1:=(by omega);have hglt:g<w.heap.size:=by obtain ⟨cs,h,_⟩:=ht;exact h.lt
   have Hb:=AD hb;have Ht:=AD ht;have Hnl:=AD hnl;clear ht ht1 hb hb1 hb2 hn he hnl c0 c1 c2 hk k1 k2 hr hp;go_in
   go_wp2_with fail
   have hA:=((AK.new (w.setCell ⟨b,0,none⟩ (.slice (some ⟨g,o+3,none⟩) (n - 1) (c - 1))) #[.string (AV t.g),.string (BB t.g),.int .i64 t.line] 129).keeps (AA.alloc [] _ (.cells #[.string (AV t.g),.string (BB t.g),.int .i64 t.line] 129)));rw [OR] at hA;have kF:=(AA.setCell w ⟨b,0,none⟩ (.slice (some ⟨g,o+3,none⟩) (n - 1) (c - 1))).trans (((AA.alloc [b] (w.setCell ⟨b,0,none⟩ (.slice (some ⟨g,o+3,none⟩) (n - 1) (c - 1))) (.cells #[.string (AV t.g),.string (BB t.g),.int .i64 t.line] 129))).trans (AA.alloc [b] ((w.setCell ⟨b,0,none⟩ (.slice (some ⟨g,o+3,none⟩) (n - 1) (c - 1))).alloc (.cells #[.string (AV t.g),.string (BB t.g),.int .i64 t.line] 129)) (.cells #[.string (AV t.g),.string (BB t.g),.int .i64 t.line] 129)));have hb3:=((Hb.out.setCell 0 (.slice (some ⟨g,o+3,none⟩) (n - 1) (c - 1))).keeps (AA.alloc [] _ (.cells #[.string (AV t.g),.string (BB t.g),.int .i64 t.line] 129))).keeps (AA.alloc [] _ (.cells #[.string (AV t.g),.string (BB t.g),.int .i64 t.line] 129));refine bodyPost_ret (v:=Da t) (EO (p:=4) (ty:=129) (by kernel_rfl) _ hA Tryz.underlying129 N1 rfl) rfl ⟨⟨rfl,o+3,c - 1,by rw [Hnl.out];exact hb3,by rw [Hnl.out];omega,Ht.out.tail.keeps kF (by simp;exact hg),hg⟩,kF⟩
structure Res3 (w:World) (r:Nat) (a0 a1 a2 x0 x1 x2:Value):Prop where
 c0:w.cell? ⟨r,0,none⟩=some a0
 f0:w.frozen? ⟨r,0,none⟩=false
 c1:(w.setCell ⟨r,0,none⟩ x0).cell? ⟨r,1,none⟩=some a1
 f1:(w.setCell ⟨r,0,none⟩ x0).frozen? ⟨r,1,none⟩=false
 c2:((w.setCell ⟨r,0,none⟩ x0).setCell ⟨r,1,none⟩ x1).cell? ⟨r,2,none⟩=some a2
 f2:((w.setCell ⟨r,0,none⟩ x0).setCell ⟨r,1,none⟩ x1).frozen? ⟨r,2,none⟩=false
 at_:AK (((w.setCell ⟨r,0,none⟩ x0).setCell ⟨r,1,none⟩ x1).setCell ⟨r,2,none⟩ x2) r #[x0,x1,x2]
 keep:AA [r] w (((w.setCell ⟨r,0,none⟩ x0).setCell ⟨r,1,none⟩ x1).setCell ⟨r,2,none⟩ x2)
theorem mB {w:World} {r:Nat} {a0 a1 a2:Value} (h:AK w r #[a0,a1,a2]) (x0 x1 x2:Value):Res3 w r a0 a1 a2 x0 x1 x2:=by
 have h1:=h.setCell 0 x0;have h2:=h1.setCell 1 x1;have h3:=h2.setCell 2 x2;exact ⟨h.cell 0,h.frozen 0,h1.cell 1,h1.frozen 1,h2.cell 2,h2.frozen 2,h3,(((AA.setCell w ⟨r,0,none⟩ x0).trans (AA.setCell (w.setCell ⟨r,0,none⟩ x0) ⟨r,1,none⟩ x1)).trans (AA.setCell ((w.setCell ⟨r,0,none⟩ x0).setCell ⟨r,1,none⟩ x1) ⟨r,2,none⟩ x2))⟩
structure Res4 (w:World) (r:Nat) (a0 a1 a2 a3 x0 x1 x2 x3:Value):Prop where
 c0:w.cell? ⟨r,0,none⟩=some a0
 f0:w.frozen? ⟨r,0,none⟩=false
 c1:(w.setCell ⟨r,0,none⟩ x0).cell? ⟨r,1,none⟩=some a1
 f1:(w.setCell ⟨r,0,none⟩ x0).frozen? ⟨r,1,none⟩=false
 c2:((w.setCell ⟨r,0,none⟩ x0).setCell ⟨r,1,none⟩ x1).cell? ⟨r,2,none⟩=some a2
 f2:((w.setCell ⟨r,0,none⟩ x0).setCell ⟨r,1,none⟩ x1).frozen? ⟨r,2,none⟩=false
 c3:(((w.setCell ⟨r,0,none⟩ x0).setCell ⟨r,1,none⟩ x1).setCell ⟨r,2,none⟩ x2).cell? ⟨r,3,none⟩=some a3
 f3:(((w.setCell ⟨r,0,none⟩ x0).setCell ⟨r,1,none⟩ x1).setCell ⟨r,2,none⟩ x2).frozen? ⟨r,3,none⟩=false
 at_:AK ((((w.setCell ⟨r,0,none⟩ x0).setCell ⟨r,1,none⟩ x1).setCell ⟨r,2,none⟩ x2).setCell ⟨r,3,none⟩ x3) r #[x0,x1,x2,x3]
 keep:AA [r] w ((((w.setCell ⟨r,0,none⟩ x0).setCell ⟨r,1,none⟩ x1).setCell ⟨r,2,none⟩ x2).setCell ⟨r,3,none⟩ x3)
theorem res4 {w:World} {r:Nat} {a0 a1 a2 a3:Value} (h:AK w r #[a0,a1,a2,a3]) (x0 x1 x2 x3:Value):Res4 w r a0 a1 a2 a3 x0 x1 x2 x3:=by
 have h1:=h.setCell 0 x0;have h2:=h1.setCell 1 x1;have h3:=h2.setCell 2 x2;have h4:=h3.setCell 3 x3;exact ⟨h.cell 0,h.frozen 0,h1.cell 1,h1.frozen 1,h2.cell 2,h2.frozen 2,h3.cell 3,h3.frozen 3,h4,((((AA.setCell w ⟨r,0,none⟩ x0).trans (AA.setCell (w.setCell ⟨r,0,none⟩ x0) ⟨r,1,none⟩ x1)).trans (AA.setCell ((w.setCell ⟨r,0,none⟩ x0).setCell ⟨r,1,none⟩ x1) ⟨r,2,none⟩ x2)).trans (AA.setCell (((w.setCell ⟨r,0,none⟩ x0).setCell ⟨r,1,none⟩ x1).setCell ⟨r,2,none⟩ x2) ⟨r,3,none⟩ x3))⟩
structure Res5 (w:World) (r:Nat) (a0 a1 a2 a3 a4 x0 x1 x2 x3 x4:Value):Prop where
 c0:w.cell? ⟨r,0,none⟩=some a0
 f0:w.frozen? ⟨r,0,none⟩=false
 c1:(w.setCell ⟨r,0,none⟩ x0).cell? ⟨r,1,none⟩=some a1
 f1:(w.setCell ⟨r,0,none⟩ x0).frozen? ⟨r,1,none⟩=false
 c2:((w.setCell ⟨r,0,none⟩ x0).setCell ⟨r,1,none⟩ x1).cell? ⟨r,2,none⟩=some a2
 f2:((w.setCell ⟨r,0,none⟩ x0).setCell ⟨r,1,none⟩ x1).frozen? ⟨r,2,none⟩=false
 c3:(((w.setCell ⟨r,0,none⟩ x0).setCell ⟨r,1,none⟩ x1).setCell ⟨r,2,none⟩ x2).cell? ⟨r,3,none⟩=some a3
 f3:(((w.setCell ⟨r,0,none⟩ x0).setCell ⟨r,1,none⟩ x1).setCell ⟨r,2,none⟩ x2).frozen? ⟨r,3,none⟩=false
 c4:((((w.setCell ⟨r,0,none⟩ x0).setCell ⟨r,1,none⟩ x1).setCell ⟨r,2,none⟩ x2).setCell ⟨r,3,none⟩ x3).cell? ⟨r,4,none⟩=some a4
 f4:((((w.setCell ⟨r,0,none⟩ x0).setCell ⟨r,1,none⟩ x1).setCell ⟨r,2,none⟩ x2).setCell ⟨r,3,none⟩ x3).frozen? ⟨r,4,none⟩=false
 at_:AK (((((w.setCell ⟨r,0,none⟩ x0).setCell ⟨r,1,none⟩ x1).setCell ⟨r,2,none⟩ x2).setCell ⟨r,3,none⟩ x3).setCell ⟨r,4,none⟩ x4) r #[x0,x1,x2,x3,x4]
 keep:AA [r] w (((((w.setCell ⟨r,0,none⟩ x0).setCell ⟨r,1,none⟩ x1).setCell ⟨r,2,none⟩ x2).setCell ⟨r,3,none⟩ x3).setCell ⟨r,4,none⟩ x4)
theorem gW {w:World} {r:Nat} {a0 a1 a2 a3 a4:Value} (h:AK w r #[a0,a1,a2,a3,a4]) (x0 x1 x2 x3 x4:Value):Res5 w r a0 a1 a2 a3 a4 x0 x1 x2 x3 x4:=by
 have h1:=h.setCell 0 x0;have h2:=h1.setCell 1 x1;have h3:=h2.setCell 2 x2;have h4:=h3.setCell 3 x3;have h5:=h4.setCell 4 x4;exact ⟨h.cell 0,h.frozen 0,h1.cell 1,h1.frozen 1,h2.cell 2,h2.frozen 2,h3.cell 3,h3.frozen 3,h4.cell 4,h4.frozen 4,h5,(((((AA.setCell w ⟨r,0,none⟩ x0).trans (AA.setCell (w.setCell ⟨r,0,none⟩ x0) ⟨r,1,none⟩ x1)).trans (AA.setCell ((w.setCell ⟨r,0,none⟩ x0).setCell ⟨r,1,none⟩ x1) ⟨r,2,none⟩ x2)).trans (AA.setCell (((w.setCell ⟨r,0,none⟩ x0).setCell ⟨r,1,none⟩ x1).setCell ⟨r,2,none⟩ x2) ⟨r,3,none⟩ x3)).trans (AA.setCell ((((w.setCell ⟨r,0,none⟩ x0).setCell ⟨r,1,none⟩ x1).setCell ⟨r,2,none⟩ x2).setCell ⟨r,3,none⟩ x3) ⟨r,4,none⟩ x4))⟩
theorem RY {p:Sg→Bool} {us:List Tn} (h:E1 p us=true):∃ t,Ca p us=.ok (t,us.tail):=by
 obtain ⟨t,_,_,h3⟩:=Vg h;exact ⟨t,h3⟩
theorem DI {w:World} {b g:Nat} {k:ByteArray} {p:Sg→Bool} (hk:GX k p) (hf:Em p) {us:List Tn} (h:HL w b g us) (he:CV us) (hl:us.length≤1000000):Calls Tryz.prog 249 #[.pointer (some ⟨b,0,none⟩),.string k] w fun e w'=>e=.returned (.bool (E1 p us))∧HL w' b g (if E1 p us then us.tail else us)∧AA [b] w w':=by
 have hne:us≠[]:=by obtain ⟨_,_,h⟩:=he.cons;rw [h];simp
 have h1:=AD (LJ hk h hne hl);have h2:=AD (Bk hk hf h he hl);cases hs:E1 p us with
 | true=>
  obtain ⟨t,ht⟩:=RY hs;rw [hs] at h1;rw [ht] at h2;clear h;go_in
  go_wp2_with fail
  refine h1.out.mono ?_;rintro e w1 ⟨rfl,rfl⟩;go_wp2_with fail
  refine h2.out.mono ?_;rintro e w1 ⟨⟨rfl,hp⟩,k1⟩;go_wp2_with fail
  go_ret
  exact ⟨rfl,hp,k1⟩
 | false=>
  rw [hs] at h1;have hP:=AD h;clear h h2;go_in
  go_wp2_with fail
  refine h1.out.mono ?_;rintro e w1 ⟨rfl,rfl⟩;go_wp2_with fail
  go_ret
  exact ⟨rfl,hP.out,AA.refl _ _⟩
theorem Ds (w:World) {b g:Nat} {us:List Tn} (h:HL w b g us) (o:Obj):HL (w.alloc o) b g us:=h.keeps (AA.alloc [] w o) (by simp) (by simp)
theorem SZ {w:World} {b g:Nat} {us:List Tn} (h:HL w b g us) (he:CV us) (hl:us.length≤1000000):Calls Tryz.prog 252 #[.pointer (some ⟨b,0,none⟩)] w fun e w'=>XC b g (Ca C8 us) e w'∧AA [b] w w':=by
 have h2:=AD (Bk GO rfl (Ds w h (.cells #[.string ⟨#[]⟩,.string ⟨#[]⟩,.int .i64 0] 129)) he hl);have kA:=AA.alloc [b] w (.cells #[.string ⟨#[]⟩,.string ⟨#[]⟩,.int .i64 0] 129);have hA:=AK.new w #[.string ⟨#[]⟩,.string ⟨#[]⟩,.int .i64 0] 129;obtain ⟨hblt,hglt⟩:=h.lt;cases hr:Ca C8 us with
 | error l=>
  rw [hr] at h2;go_in
  go_wp2_with fail
  refine h2.out.mono ?_;rintro e w1 ⟨rfl,k1⟩;exact ⟨rfl,rfl,kA.trans k1⟩
 | ok q=>
  obtain ⟨t,vs⟩:=q;rw [hr] at h2;go_in
  go_wp2_with fail
  refine h2.out.mono ?_;rintro e w1 ⟨⟨rfl,hp⟩,k1⟩;have hR:=mB (hA.keeps k1 (by simp;omega)) (.string (AV t.g)) (.string (BB t.g)) (.int .i64 t.line);obtain ⟨c0,f0,c1,f1,c2,f2,hat,hk⟩:=hR;have Hat:=AD hat;have Hk:=AD hk;clear hat hk;unfold Da;go_wp2_with fail
  refine bodyPost_ret (v:=Da t) (EO (p:=2) (ty:=129) (by kernel_rfl) _ Hat.out Tryz.underlying129 N1 rfl) rfl ⟨⟨rfl,hp.keeps Hk.out (by simp;omega) (by simp;omega)⟩,(kA.trans k1).trans_new Hk.out (by simp)⟩
theorem YP {us:List Tn}:Ca Bv us=if E1 IV us then Ca IV us else Ca J6 us:=by
 cases us with
 | nil=>rfl
 | cons t us=>
  simp only [Ca,E1];obtain ⟨g,l⟩:=t;cases g <;> simp [Bv,IV,J6]
theorem Vc {w:World} {b g:Nat} {us:List Tn} (h:HL w b g us) (he:CV us) (hl:us.length≤1000000):Calls Tryz.prog 298 #[.pointer (some ⟨b,0,none⟩)] w fun e w'=>XC b g (Ca Bv us) e w'∧AA [b] w w':=by
 have hne:us≠[]:=by obtain ⟨_,_,h⟩:=he.cons;rw [h];simp
 have h1:=AD (LJ cQ (Ds w h (.cells #[.string ⟨#[]⟩,.string ⟨#[]⟩,.int .i64 0] 129)) hne hl);have h2:=AD (Bk cQ rfl (Ds w h (.cells #[.string ⟨#[]⟩,.string ⟨#[]⟩,.int .i64 0] 129)) he hl);have h3:=AD (Bk SC rfl (Ds w h (.cells #[.string ⟨#[]⟩,.string ⟨#[]⟩,.int .i64 0] 129)) he hl);have kA:=AA.alloc [b] w (.cells #[.string ⟨#[]⟩,.string ⟨#[]⟩,.int .i64 0] 129);have hA:=AK.new w #[.string ⟨#[]⟩,.string ⟨#[]⟩,.int .i64 0] 129;obtain ⟨hblt,hglt⟩:=h.lt;clear h;rw [YP];cases hs:E1 IV us with
 | true=>
  rw [if_pos rfl];rw [hs] at h1;cases hr:Ca IV us with
  | error l=>
   rw [hr] at h2;go_in
   go_wp2_with fail
   refine h1.out.mono ?_;rintro e w1 ⟨rfl,rfl⟩;go_wp2_with fail
   refine h2.out.mono ?_;rintro e w1 ⟨rfl,k1⟩;exact ⟨rfl,rfl,kA.trans k1⟩
  | ok q=>
   obtain ⟨t,vs⟩:=q;rw [hr] at h2;go_in
   go_wp2_with fail
   refine h1.out.mono ?_;rintro e w1 ⟨rfl,rfl⟩;go_wp2_with fail
   refine h2.out.mono ?_;rintro e w1 ⟨⟨rfl,hp⟩,k1⟩;have hR:=mB (hA.keeps k1 (by simp;omega)) (.string (AV t.g)) (.string (BB t.g)) (.int .i64 t.line);obtain ⟨c0,f0,c1,f1,c2,f2,hat,hk⟩:=hR;have Hat:=AD hat;have Hk:=AD hk;clear hat hk;unfold Da;go_wp2_with fail
   refine bodyPost_ret (v:=Da t) (EO (p:=2) (ty:=129) (by kernel_rfl) _ Hat.out Tryz.underlying129 N1 rfl) rfl ⟨⟨rfl,hp.keeps Hk.out (by simp;omega) (by simp;omega)⟩,(kA.trans k1).trans_new Hk.out (by simp)⟩
 | false=>
  rw [if_neg (by decide)];rw [hs] at h1;cases hr:Ca J6 us with
  | error l=>
   rw [hr] at h3;go_in
   go_wp2_with fail
   refine h1.out.mono ?_;rintro e w1 ⟨rfl,rfl⟩;go_wp2_with fail
   refine h3.out.mono ?_;rintro e w1 ⟨rfl,k1⟩;exact ⟨rfl,rfl,kA.trans k1⟩
  | ok q=>
   obtain ⟨t,vs⟩:=q;rw [hr] at h3;go_in
   go_wp2_with fail
   refine h1.out.mono ?_;rintro e w1 ⟨rfl,rfl⟩;go_wp2_with fail
   refine h3.out.mono ?_;rintro e w1 ⟨⟨rfl,hp⟩,k1⟩;have hR:=mB (hA.keeps k1 (by simp;omega)) (.string (AV t.g)) (.string (BB t.g)) (.int .i64 t.line);obtain ⟨c0,f0,c1,f1,c2,f2,hat,hk⟩:=hR;have Hat:=AD hat;have Hk:=AD hk;clear hat hk;unfold Da;go_wp2_with fail
   refine bodyPost_ret (v:=Da t) (EO (p:=2) (ty:=129) (by kernel_rfl) _ Hat.out Tryz.underlying129 N1 rfl) rfl ⟨⟨rfl,hp.keeps Hk.out (by simp;omega) (by simp;omega)⟩,(kA.trans k1).trans_new Hk.out (by simp)⟩
def fH (base b g:Nat) (r:Except Nat (List Tn×List Tn)) (e:Ending) (w':World):Prop:=match r with
 | .ok (ts,us)=>∃ v,e=.returned v∧w'.ownsRow base 129 3 v ts.length (De ts)∧HL w' b g us
 | .error l=>e=Cx 5 l
theorem Z1 {W:World} (t:Tn):∀ (j:Nat) (x:Value),(Me t)[j]?=some x→(W.alloc (.cells #[.string (AV t.g),.string (BB t.g),.int .i64 t.line] 129)).cell? ((⟨W.heap.size,0,none⟩:Addr).add j)=some x:=RH (a:=.string (AV t.g)) (b:=.string (BB t.g)) (c:=.int .i64 t.line)
theorem aO (W:World) (base:Nat) (t:Tn) (hb:base≤W.heap.size):(W.alloc (.cells #[.string (AV t.g),.string (BB t.g),.int .i64 t.line] 129)).ownsRow base 129 3 (.slice (some ⟨W.heap.size,0,none⟩) 1 1) 1 (De [t]):=
 ⟨rfl,.inr ⟨W.heap.size,1,#[.string (AV t.g),.string (BB t.g),.int .i64 t.line],rfl,hb,(MapKept.heap_alloc W _).1,AQ _,by unfold maxLen;omega,rfl,rfl⟩⟩
def aK:Option Value→Nat | some (.slice _ n _)=>n | _=>0
theorem HL.len {w:World} {b g:Nat} {us:List Tn} (h:HL w b g us):aK (w.cell? ⟨b,0,none⟩)=us.length:=by
 obtain ⟨o,c,h1,_⟩:=h;rw [h1.cell];rfl
def G8 (d:List Tn):Except Nat (List Tn×List Tn)→Except Nat (List Tn×List Tn)
 | .ok (r,us)=>.ok (d++r,us)
 | .error l=>.error l
theorem UO {p:Sg→Bool} {us us1 us2:List Tn} {t1 t2:Tn} (h1:Ca NW us=.ok (t1,us1)) (h2:Ca p us1=.ok (t2,us2)):E4 p us=G8 [t2] (Ef p us2.length us2):=by
 unfold E4;rw [h1];simp only;rw [h2];simp only;cases Ef p us2.length us2 with
 | error l=>rfl
 | ok q=>obtain ⟨r,xs⟩:=q;rfl
theorem UQ {p:Sg→Bool} {us:List Tn} {l:Nat} (h1:Ca NW us=.error l):E4 p us=.error l:=by
 unfold E4;rw [h1]
theorem UP {p:Sg→Bool} {us us1:List Tn} {t1:Tn} {l:Nat} (h1:Ca NW us=.ok (t1,us1)) (h2:Ca p us1=.error l):E4 p us=.error l:=by
 unfold E4;rw [h1];simp only;rw [h2]
theorem IT {w:World} {b g:Nat} {us:List Tn} (h:HL w b g us) (he:CV us) (hl:us.length≤1000000):Calls Tryz.prog 251 #[.pointer (some ⟨b,0,none⟩),.func (.func 252) #[.pointer (some ⟨b,0,none⟩)] #[]] w fun e w'=>fH w.heap.size b g (E4 C8 us) e w'∧AA [b] w w':=by
 obtain ⟨i0,hi0,hz0,hz1,hz2⟩:=info_parts SH;have hT1:=AD (Bk lI rfl h he hl);have hOne:=AD (fun (w:World) (us:List Tn) (h:HL w b g us) (he:CV us) (hl:us.length≤1000000)=>SZ h he hl);have hComma:=AD (fun (w:World) (us:List Tn) (h:HL w b g us) (he:CV us) (hl:us.length≤1000000)=>DI O1 rfl h he hl);have hRp:=AD (fun (w:World) (us:List Tn) (h:HL w b g us) (he:CV us) (hl:us.length≤1000000)=>Bk lH rfl h he hl);obtain ⟨hblt,hglt⟩:=h.lt;clear h;cases hr1:Ca NW us with
 | error l=>
  rw [hr1] at hT1;rw [UQ hr1];go_in
  go_wp2_with fail
  refine hT1.out.mono ?_;rintro e w1 ⟨rfl,k1⟩;exact ⟨rfl,rfl,k1⟩
 | ok q1=>
  obtain ⟨t1,us1⟩:=q1;rw [hr1] at hT1;have g1:=(BK J4 he hr1).1;cases hr2:Ca C8 us1 with
  | error l=>
   rw [UP hr1 hr2];go_in
   go_wp2_with fail
   refine hT1.out.mono ?_;rintro e w1 ⟨⟨rfl,hp1⟩,k1⟩;have h2:=AD (hOne.out w1 us1 hp1 g1.2 (by have:=g1.1;omega));rw [hr2] at h2;go_wp2_with fail
   refine h2.out.mono ?_;rintro e w2 ⟨rfl,k2⟩;exact ⟨rfl,rfl,k1.trans k2⟩
  | ok q2=>
   obtain ⟨t2,us2⟩:=q2;have g2:=(BK (p:=C8) rfl g1.2 hr2).1;rw [UO hr1 hr2];generalize hR2:G8 [t2] (Ef C8 us2.length us2)=R;have HR2:=AD hR2;clear hR2;go_in
   go_wp2_with fail
   refine hT1.out.mono ?_;rintro e w1 ⟨⟨rfl,hp1⟩,k1⟩;have h2:=AD (hOne.out w1 us1 hp1 g1.2 (by have:=g1.1;omega));rw [hr2] at h2;go_wp2_with fail
   refine h2.out.mono ?_;rintro e w2 ⟨⟨rfl,hp2⟩,k2⟩;have hrow:=aO w2 w.heap.size t2 (by have:=k1.size;have:=k2.size;omega);have kA:=AA.alloc [b] w2 (.cells #[.string (AV t2.g),.string (BB t2.g),.int .i64 t2.line] 129);have hp3:=Ds w2 hp2 (.cells #[.string (AV t2.g),.string (BB t2.g),.int .i64 t2.line] 129);have k3:AA [b] w (w2.alloc (.cells #[.string (AV t2.g),.string (BB t2.g),.int .i64 t2.line] 129)):=(k1.trans k2).trans kA;unfold Da;go_wp2_with fail
   go_loopw [5] (fun y wr=>∃ (k:Nat) (d vs:List Tn),wr.ownsRow w.heap.size 129 3 y d.length (De d)∧HL wr b g vs∧CV vs∧vs.length≤k∧d.length+vs.length≤us.length∧AA [b] w wr∧G8 d (Ef C8 k vs)=R) (fun _ wr=>aK (wr.cell? ⟨b,0,none⟩))
   case atStart=>exact ⟨us2.length,[t2],us2,hrow,hp3,g2.2,AQ _,by have:=g1.1;have:=g2.1;simp;omega,k3,HR2.out⟩
   case round=>
    obtain ⟨k,d,vs,own,hpv,hev,hkv,hdv,kr,hres⟩:=hrel;have hlen:=hpv.len;obtain ⟨k,rfl⟩:∃ k',k=k' + 1:=by obtain ⟨t,q,rfl⟩:=hev.cons;simp at hkv;exact ⟨k - 1,by omega⟩
    have hC:=AD (hComma.out wr vs hpv hev (by omega));have hpl:=AD hpv;rw [Ef] at hres;cases hs:E1 G3 vs with
    | true=>
     rw [hs] at hC;rw [hs,if_pos rfl] at hres;have g3:=Cm ES hev hs;cases hr3:Ca C8 vs.tail with
     | error l=>
      rw [hr3] at hres;have Hres:=AD hres;clear hres hpv hlen;go_wp2_with fail
      refine hC.out.mono ?_;rintro e w3 ⟨rfl,hp4,k4⟩;have h5:=AD (hOne.out w3 vs.tail hp4 g3.2 (by have:=g3.1;omega));rw [hr3] at h5;go_wp2_with fail
      refine h5.out.mono ?_;rintro e w4 ⟨rfl,k5⟩;refine ⟨rfl,?_,(kr.trans k4).trans k5⟩;rw [←Hres.out];rfl
     | ok q3=>
      obtain ⟨t3,us3⟩:=q3;rw [hr3] at hres;have g4:=(BK (p:=C8) rfl g3.2 hr3).1;have hah:G8 (d++[t3]) (Ef C8 k us3)=R:=by
       rw [←hres]
       show _=G8 d (match Ef C8 k us3 with
        | .error l=>Except.error l
        | .ok (r,vs)=>.ok (t3 :: r,vs))
       cases Ef C8 k us3 with
       | error l=>rfl
       | ok q=>obtain ⟨r,xs⟩:=q;simp [G8]
      have Hah:=AD hah;have hlen2:=AD hlen;clear hres hah hpv hlen;obtain ⟨ay,cy,rfl⟩:=Al own;go_wp2_with fail
      refine hC.out.mono ?_;rintro e w3 ⟨rfl,hp4,k4⟩;have h5:=AD (hOne.out w3 vs.tail hp4 g3.2 (by have:=g3.1;omega));rw [hr3] at h5;go_wp2_with fail
      refine h5.out.mono ?_;rintro e w4 ⟨⟨rfl,hp5⟩,k5⟩;have hnb:∀ j,(Value.slice ay d.length cy).ownBlock=some j→j≠b∧j≠g:=fun j hj=>by have:=(As own j hj).1;omega
      have kB:=(k4.trans k5).trans (AA.alloc [b] w4 (.cells #[.string (AV t3.g),.string (BB t3.g),.int .i64 t3.line] 129));have ownB:=AH own kB (fun j hj h=>(hnb j hj).1 (by simpa using h));have hp6:=Ds w4 hp5 (.cells #[.string (AV t3.g),.string (BB t3.g),.int .i64 t3.line] 129);have hone:=Z1 (W:=w4) t3;have hszB:w.heap.size≤(w4.alloc (.cells #[.string (AV t3.g),.string (BB t3.g),.int .i64 t3.line] 129)).heap.size:=by rw [AX];have:=kr.size;have:=k4.size;have:=k5.size;omega
      unfold Da;go_wp2_with (at_builtin;refine wpList_append_own_at _ rfl _ _ 125 rfl w.heap.size 129 i0 (.agg #[.string ⟨#[]⟩,.string ⟨#[]⟩,.int .i64 0]) 3 40 Tryz.underlying125 hi0 hz0 hz1 hz2 rfl (by decide) _ d.length (De d) rfl ownB ⟨w4.heap.size,0,none⟩ 1 1 [.string (AV t3.g),.string (BB t3.g),.int .i64 t3.line] rfl (by simp) hone (by simp [Value.oneCell']) (by unfold maxLen;omega) (by omega) hszB ?_)
      intro v' W2 own2 grow2 nil2 at2;have k2':=grownBy_keeps' grow2 (Value.slice ay d.length cy).ownBlock.toList (fun r e=>.inl (by simp [e]));have kf:AA [b] w W2:=(kr.trans kB).trans_new k2' fun j hj=>.inr (As own j (by simpa using hj)).1;have hp7:HL W2 b g us3:=hp6.keeps k2' (fun h=>(hnb b (by simpa using h)).1 rfl) (fun h=>(hnb g (by simpa using h)).2 rfl);have hlen7:=AD hp7.len;have Hp7:=AD hp7;clear hp7;go_wp2_with fail
      go_roundw
      ·exact ⟨k,d++[t3],us3,by rw [I5,AJ];exact own2,Hp7.out,g4.2,by have:=g3.1;have:=g4.1;omega,by have:=g3.1;have:=g4.1;rw [AJ,Ah];omega,kf,Hah.out⟩
      ·rw [hlen7.out,hlen2.out];have:=g3.1;have:=g4.1;omega
    | false=>
     rw [hs] at hC;rw [hs,if_neg (by decide)] at hres;cases hr3:Ca Uc vs with
     | error l=>
      rw [hr3] at hres;have Hres:=AD hres;clear hres hpv hlen;go_wp2_with fail
      refine hC.out.mono ?_;rintro e w3 ⟨rfl,hp4,k4⟩;have h5:=AD (hRp.out w3 vs hp4 hev (by omega));rw [hr3] at h5;go_wp2_with fail
      refine h5.out.mono ?_;rintro e w4 ⟨rfl,k5⟩;refine ⟨rfl,?_,(kr.trans k4).trans k5⟩;rw [←Hres.out];rfl
     | ok q3=>
      obtain ⟨t3,us3⟩:=q3;rw [hr3] at hres;have Hres:=AD hres;clear hres hpv hlen;go_wp2_with fail
      refine hC.out.mono ?_;rintro e w3 ⟨rfl,hp4,k4⟩;have h5:=AD (hRp.out w3 vs hp4 hev (by omega));rw [hr3] at h5;go_wp2_with fail
      refine h5.out.mono ?_;rintro e w4 ⟨⟨rfl,hp5⟩,k5⟩;go_wp2_with fail
      go_ret
      refine ⟨?_,(kr.trans k4).trans k5⟩;rw [←Hres.out];refine ⟨_,rfl,?_,hp5⟩;rw [BR];exact AH own (k4.trans k5) (fun j hj h=>by have:=(As own j hj).1;have e:j=b:=(by simpa using h);omega)
theorem Kv {w:World} {b g:Nat} {us:List Tn} (h:HL w b g us) (he:CV us) (hl:us.length≤1000000):Calls Tryz.prog 251 #[.pointer (some ⟨b,0,none⟩),.func (.func 298) #[.pointer (some ⟨b,0,none⟩)] #[]] w fun e w'=>fH w.heap.size b g (E4 Bv us) e w'∧AA [b] w w':=by
 obtain ⟨i0,hi0,hz0,hz1,hz2⟩:=info_parts SH;have hT1:=AD (Bk lI rfl h he hl);have hOne:=AD (fun (w:World) (us:List Tn) (h:HL w b g us) (he:CV us) (hl:us.length≤1000000)=>Vc h he hl);have hComma:=AD (fun (w:World) (us:List Tn) (h:HL w b g us) (he:CV us) (hl:us.length≤1000000)=>DI O1 rfl h he hl);have hRp:=AD (fun (w:World) (us:List Tn) (h:HL w b g us) (he:CV us) (hl:us.length≤1000000)=>Bk lH rfl h he hl);obtain ⟨hblt,hglt⟩:=h.lt;clear h;cases hr1:Ca NW us with
 | error l=>
  rw [hr1] at hT1;rw [UQ hr1];go_in
  go_wp2_with fail
  refine hT1.out.mono ?_;rintro e w1 ⟨rfl,k1⟩;exact ⟨rfl,rfl,k1⟩
 | ok q1=>
  obtain ⟨t1,us1⟩:=q1;rw [hr1] at hT1;have g1:=(BK J4 he hr1).1;cases hr2:Ca Bv us1 with
  | error l=>
   rw [UP hr1 hr2];go_in
   go_wp2_with fail
   refine hT1.out.mono ?_;rintro e w1 ⟨⟨rfl,hp1⟩,k1⟩;have h2:=AD (hOne.out w1 us1 hp1 g1.2 (by have:=g1.1;omega));rw [hr2] at h2;go_wp2_with fail
   refine h2.out.mono ?_;rintro e w2 ⟨rfl,k2⟩;exact ⟨rfl,rfl,k1.trans k2⟩
  | ok q2=>
   obtain ⟨t2,us2⟩:=q2;have g2:=(BK (p:=Bv) rfl g1.2 hr2).1;rw [UO hr1 hr2];generalize hR2:G8 [t2] (Ef Bv us2.length us2)=R;have HR2:=AD hR2;clear hR2;go_in
   go_wp2_with fail
   refine hT1.out.mono ?_;rintro e w1 ⟨⟨rfl,hp1⟩,k1⟩;have h2:=AD (hOne.out w1 us1 hp1 g1.2 (by have:=g1.1;omega));rw [hr2] at h2;go_wp2_with fail
   refine h2.out.mono ?_;rintro e w2 ⟨⟨rfl,hp2⟩,k2⟩;have hrow:=aO w2 w.heap.size t2 (by have:=k1.size;have:=k2.size;omega);have kA:=AA.alloc [b] w2 (.cells #[.string (AV t2.g),.string (BB t2.g),.int .i64 t2.line] 129);have hp3:=Ds w2 hp2 (.cells #[.string (AV t2.g),.string (BB t2.g),.int .i64 t2.line] 129);have k3:AA [b] w (w2.alloc (.cells #[.string (AV t2.g),.string (BB t2.g),.int .i64 t2.line] 129)):=(k1.trans k2).trans kA;unfold Da;go_wp2_with fail
   go_loopw [5] (fun y wr=>∃ (k:Nat) (d vs:List Tn),wr.ownsRow w.heap.size 129 3 y d.length (De d)∧HL wr b g vs∧CV vs∧vs.length≤k∧d.length+vs.length≤us.length∧AA [b] w wr∧G8 d (Ef Bv k vs)=R) (fun _ wr=>aK (wr.cell? ⟨b,0,none⟩))
   case atStart=>exact ⟨us2.length,[t2],us2,hrow,hp3,g2.2,AQ _,by have:=g1.1;have:=g2.1;simp;omega,k3,HR2.out⟩
   case round=>
    obtain ⟨k,d,vs,own,hpv,hev,hkv,hdv,kr,hres⟩:=hrel;have hlen:=hpv.len;obtain ⟨k,rfl⟩:∃ k',k=k' + 1:=by obtain ⟨t,q,rfl⟩:=hev.cons;simp at hkv;exact ⟨k - 1,by omega⟩
    have hC:=AD (hComma.out wr vs hpv hev (by omega));have hpl:=AD hpv;rw [Ef] at hres;cases hs:E1 G3 vs with
    | true=>
     rw [hs] at hC;rw [hs,if_pos rfl] at hres;have g3:=Cm ES hev hs;cases hr3:Ca Bv vs.tail with
     | error l=>
      rw [hr3] at hres;have Hres:=AD hres;clear hres hpv hlen;go_wp2_with fail
      refine hC.out.mono ?_;rintro e w3 ⟨rfl,hp4,k4⟩;have h5:=AD (hOne.out w3 vs.tail hp4 g3.2 (by have:=g3.1;omega));rw [hr3] at h5;go_wp2_with fail
      refine h5.out.mono ?_;rintro e w4 ⟨rfl,k5⟩;refine ⟨rfl,?_,(kr.trans k4).trans k5⟩;rw [←Hres.out];rfl
     | ok q3=>
      obtain ⟨t3,us3⟩:=q3;rw [hr3] at hres;have g4:=(BK (p:=Bv) rfl g3.2 hr3).1;have hah:G8 (d++[t3]) (Ef Bv k us3)=R:=by
       rw [←hres]
       show _=G8 d (match Ef Bv k us3 with
        | .error l=>Except.error l
        | .ok (r,vs)=>.ok (t3 :: r,vs))
       cases Ef Bv k us3 with
       | error l=>rfl
       | ok q=>obtain ⟨r,xs⟩:=q;simp [G8]
      have Hah:=AD hah;have hlen2:=AD hlen;clear hres hah hpv hlen;obtain ⟨ay,cy,rfl⟩:=Al own;go_wp2_with fail
      refine hC.out.mono ?_;rintro e w3 ⟨rfl,hp4,k4⟩;have h5:=AD (hOne.out w3 vs.tail hp4 g3.2 (by have:=g3.1;omega));rw [hr3] at h5;go_wp2_with fail
      refine h5.out.mono ?_;rintro e w4 ⟨⟨rfl,hp5⟩,k5⟩;have hnb:∀ j,(Value.slice ay d.length cy).ownBlock=some j→j≠b∧j≠g:=fun j hj=>by have:=(As own j hj).1;omega
      have kB:=(k4.trans k5).trans (AA.alloc [b] w4 (.cells #[.string (AV t3.g),.string (BB t3.g),.int .i64 t3.line] 129));have ownB:=AH own kB (fun j hj h=>(hnb j hj).1 (by simpa using h));have hp6:=Ds w4 hp5 (.cells #[.string (AV t3.g),.string (BB t3.g),.int .i64 t3.line] 129);have hone:=Z1 (W:=w4) t3;have hszB:w.heap.size≤(w4.alloc (.cells #[.string (AV t3.g),.string (BB t3.g),.int .i64 t3.line] 129)).heap.size:=by rw [AX];have:=kr.size;have:=k4.size;have:=k5.size;omega
      unfold Da;go_wp2_with (at_builtin;refine wpList_append_own_at _ rfl _ _ 125 rfl w.heap.size 129 i0 (.agg #[.string ⟨#[]⟩,.string ⟨#[]⟩,.int .i64 0]) 3 40 Tryz.underlying125 hi0 hz0 hz1 hz2 rfl (by decide) _ d.length (De d) rfl ownB ⟨w4.heap.size,0,none⟩ 1 1 [.string (AV t3.g),.string (BB t3.g),.int .i64 t3.line] rfl (by simp) hone (by simp [Value.oneCell']) (by unfold maxLen;omega) (by omega) hszB ?_)
      intro v' W2 own2 grow2 nil2 at2;have k2':=grownBy_keeps' grow2 (Value.slice ay d.length cy).ownBlock.toList (fun r e=>.inl (by simp [e]));have kf:AA [b] w W2:=(kr.trans kB).trans_new k2' fun j hj=>.inr (As own j (by simpa using hj)).1;have hp7:HL W2 b g us3:=hp6.keeps k2' (fun h=>(hnb b (by simpa using h)).1 rfl) (fun h=>(hnb g (by simpa using h)).2 rfl);have hlen7:=AD hp7.len;have Hp7:=AD hp7;clear hp7;go_wp2_with fail
      go_roundw
      ·exact ⟨k,d++[t3],us3,by rw [I5,AJ];exact own2,Hp7.out,g4.2,by have:=g3.1;have:=g4.1;omega,by have:=g3.1;have:=g4.1;rw [AJ,Ah];omega,kf,Hah.out⟩
      ·rw [hlen7.out,hlen2.out];have:=g3.1;have:=g4.1;omega
    | false=>
     rw [hs] at hC;rw [hs,if_neg (by decide)] at hres;cases hr3:Ca Uc vs with
     | error l=>
      rw [hr3] at hres;have Hres:=AD hres;clear hres hpv hlen;go_wp2_with fail
      refine hC.out.mono ?_;rintro e w3 ⟨rfl,hp4,k4⟩;have h5:=AD (hRp.out w3 vs hp4 hev (by omega));rw [hr3] at h5;go_wp2_with fail
      refine h5.out.mono ?_;rintro e w4 ⟨rfl,k5⟩;refine ⟨rfl,?_,(kr.trans k4).trans k5⟩;rw [←Hres.out];rfl
     | ok q3=>
      obtain ⟨t3,us3⟩:=q3;rw [hr3] at hres;have Hres:=AD hres;clear hres hpv hlen;go_wp2_with fail
      refine hC.out.mono ?_;rintro e w3 ⟨rfl,hp4,k4⟩;have h5:=AD (hRp.out w3 vs hp4 hev (by omega));rw [hr3] at h5;go_wp2_with fail
      refine h5.out.mono ?_;rintro e w4 ⟨⟨rfl,hp5⟩,k5⟩;go_wp2_with fail
      go_ret
      refine ⟨?_,(kr.trans k4).trans k5⟩;rw [←Hres.out];refine ⟨_,rfl,?_,hp5⟩;rw [BR];exact AH own (k4.trans k5) (fun j hj h=>by have:=(As own j hj).1;have e:j=b:=(by simpa using h);omega)
theorem BZ {w:World} {base base':Nat} {e:TypeId} {size:Nat} {v:Value} {n:Nat} {xs:List Value} (h:w.ownsRow base e size v n xs) (hb:base'≤base):w.ownsRow base' e size v n xs:=by
 obtain ⟨h1,h2⟩:=h;refine ⟨h1,?_⟩;rcases h2 with h2 | ⟨g,cap,cur,h3,h4,h5⟩
 ·exact .inl h2
 ·exact .inr ⟨g,cap,cur,h3,by omega,h5⟩
theorem gD:(Tryz.prog.info? 327).map (·.size)=some 4:=by kernel_rfl
theorem XT:(Tryz.prog.info? 353).map (·.size)=some 5:=by kernel_rfl
def nF (base b g:Nat) (r:Except Nat (Dx×List Tn)) (e:Ending) (w':World):Prop:=match r with
 | .ok (a,us)=>∃ v,e=.returned (.agg #[.string (AV a.name.g),.string (BB a.name.g),.int .i64 a.name.line,v])∧w'.ownsRow base 129 3 v a.terms.length (De a.terms)∧HL w' b g us
 | .error l=>e=Cx 5 l
theorem G5 {w:World} {b g:Nat} {us:List Tn} (h:HL w b g us) (he:CV us) (hl:us.length≤1000000):Calls Tryz.prog 289 #[.pointer (some ⟨b,0,none⟩)] w fun e w'=>nF w.heap.size b g (Fj us) e w'∧AA [b] w w':=by
 have h2:=AD (Bk GO rfl (Ds w h (.cells #[.string ⟨#[]⟩,.string ⟨#[]⟩,.int .i64 0,.slice none 0 0] 327)) he hl);have kA:=AA.alloc [b] w (.cells #[.string ⟨#[]⟩,.string ⟨#[]⟩,.int .i64 0,.slice none 0 0] 327);have hA:=AK.new w #[.string ⟨#[]⟩,.string ⟨#[]⟩,.int .i64 0,.slice none 0 0] 327;obtain ⟨hblt,hglt⟩:=h.lt;clear h;unfold Fj;cases hr:Ca C8 us with
 | error l=>
  rw [hr] at h2;go_in
  go_wp2_with fail
  refine h2.out.mono ?_;rintro e w1 ⟨rfl,k1⟩;exact ⟨rfl,rfl,kA.trans k1⟩
 | ok q=>
  obtain ⟨t,vs⟩:=q;rw [hr] at h2;have g1:=(BK Dg he hr).1;simp only;cases hr2:E4 Bv vs with
  | error l=>
   go_in
   go_wp2_with fail
   refine h2.out.mono ?_;rintro e w1 ⟨⟨rfl,hp1⟩,k1⟩;have h3:=AD (Kv hp1 g1.2 (by have:=g1.1;omega));rw [hr2] at h3;go_wp2_with fail
   refine h3.out.mono ?_;rintro e w2 ⟨rfl,k2⟩;exact ⟨rfl,rfl,(kA.trans k1).trans k2⟩
  | ok q2=>
   obtain ⟨ts,us2⟩:=q2;go_in
   go_wp2_with fail
   refine h2.out.mono ?_;rintro e w1 ⟨⟨rfl,hp1⟩,k1⟩;have h3:=AD (Kv hp1 g1.2 (by have:=g1.1;omega));rw [hr2] at h3;go_wp2_with fail
   refine h3.out.mono ?_;rintro e w2 ⟨⟨v,rfl,own,hp2⟩,k2⟩;have hsz1:w.heap.size+1≤w1.heap.size:=by have:=k1.size;rw [AX] at this;exact this
   have hR:=res4 (hA.keeps (k1.trans k2) (by simp;omega)) (.string (AV t.g)) (.string (BB t.g)) (.int .i64 t.line) v;obtain ⟨c0,f0,c1,f1,c2,f2,c3,f3,hat,hk⟩:=hR;have Hat:=AD hat;have Hk:=AD hk;obtain ⟨av,cv,hv⟩:=Al own;subst hv;have Hown:=AD own;clear hat hk own;unfold Da;go_wp2_with fail
   refine bodyPost_ret (v:=.agg #[.string (AV t.g),.string (BB t.g),.int .i64 t.line,.slice av ts.length cv]) (EO (p:=2) (ty:=327) (by kernel_rfl) _ Hat.out Tryz.underlying327 gD rfl) rfl ⟨⟨_,rfl,?_,hp2.keeps Hk.out (by simp;omega) (by simp;omega)⟩,((kA.trans k1).trans k2).trans_new Hk.out (by simp)⟩;exact BZ (AH Hown.out Hk.out (fun j hj h=>by have:=(As Hown.out j hj).1;have e:j=w.heap.size:=(by simpa using h);omega)) (by omega)
def LitTo (base b g:Nat) (r:Except Nat (Dn×List Tn)) (e:Ending) (w':World):Prop:=match r with
 | .ok (a,us)=>∃ v,e=.returned (.agg #[.string (AV a.atom.name.g),.string (BB a.atom.name.g),.int .i64 a.atom.name.line,v,.bool a.no])∧w'.ownsRow base 129 3 v a.atom.terms.length (De a.atom.terms)∧HL w' b g us
 | .error l=>e=Cx 5 l
theorem Y9 {w:World} {b g:Nat} {us:List Tn} (h:HL w b g us) (he:CV us) (hl:us.length≤1000000):Calls Tryz.prog 290 #[.pointer (some ⟨b,0,none⟩)] w fun e w'=>LitTo w.heap.size b g (Nv us) e w'∧AA [b] w w':=by
 have h2:=AD (DI iM rfl (Ds w h (.cells #[.string ⟨#[]⟩,.string ⟨#[]⟩,.int .i64 0,.slice none 0 0,.bool false] 353)) he hl);have kA:=AA.alloc [b] w (.cells #[.string ⟨#[]⟩,.string ⟨#[]⟩,.int .i64 0,.slice none 0 0,.bool false] 353);have hA:=AK.new w #[.string ⟨#[]⟩,.string ⟨#[]⟩,.int .i64 0,.slice none 0 0,.bool false] 353;obtain ⟨hblt,hglt⟩:=h.lt;clear h;unfold Nv;split
 ·rename_i hs;rw [hs] at h2;have hev:CV us.tail∧us.tail.length≤1000000:=by have g1:=Cm Le he hs;exact ⟨g1.2,by have:=g1.1;omega⟩
  cases hr2:Fj us.tail with
  | error l=>
   go_in
   go_wp2_with fail
   refine h2.out.mono ?_;rintro e w1 ⟨rfl,hp1,k1⟩;have h3:=AD (G5 (us:=us.tail) hp1 hev.1 hev.2);rw [hr2] at h3;go_wp2_with fail
   refine h3.out.mono ?_;rintro e w2 ⟨rfl,k2⟩;exact ⟨rfl,rfl,(kA.trans k1).trans k2⟩
  | ok q2=>
   obtain ⟨a,us2⟩:=q2;go_in
   go_wp2_with fail
   refine h2.out.mono ?_;rintro e w1 ⟨rfl,hp1,k1⟩;have h3:=AD (G5 (us:=us.tail) hp1 hev.1 hev.2);rw [hr2] at h3;go_wp2_with fail
   refine h3.out.mono ?_;rintro e w2 ⟨⟨v,rfl,own,hp2⟩,k2⟩;have hsz1:w.heap.size+1≤w1.heap.size:=by have:=k1.size;rw [AX] at this;exact this
   have hR:=gW (hA.keeps (k1.trans k2) (by simp;omega)) (.string (AV a.name.g)) (.string (BB a.name.g)) (.int .i64 a.name.line) v (.bool true);obtain ⟨c0,f0,c1,f1,c2,f2,c3,f3,c4,f4,hat,hk⟩:=hR;have Hat:=AD hat;have Hk:=AD hk;obtain ⟨av,cv,hv⟩:=Al own;subst hv;have Hown:=AD own;clear hat hk own;go_wp2_with fail
   refine bodyPost_ret (v:=.agg #[.string (AV a.name.g),.string (BB a.name.g),.int .i64 a.name.line,.slice av a.terms.length cv,.bool true]) (EO (p:=2) (ty:=353) (by kernel_rfl) _ Hat.out Tryz.underlying353 XT rfl) rfl ⟨⟨_,rfl,?_,hp2.keeps Hk.out (by simp;omega) (by simp;omega)⟩,((kA.trans k1).trans k2).trans_new Hk.out (by simp)⟩;exact BZ (AH Hown.out Hk.out (fun j hj h=>by have:=(As Hown.out j hj).1;have e:j=w.heap.size:=(by simpa using h);omega)) (by omega)
 ·rename_i hs;rw [Bool.not_eq_true] at hs;rw [hs] at h2;have hev:CV us∧us.length≤1000000:=⟨he,hl⟩;cases hr2:Fj us with
  | error l=>
   go_in
   go_wp2_with fail
   refine h2.out.mono ?_;rintro e w1 ⟨rfl,hp1,k1⟩;have h3:=AD (G5 (us:=us) hp1 hev.1 hev.2);rw [hr2] at h3;go_wp2_with fail
   refine h3.out.mono ?_;rintro e w2 ⟨rfl,k2⟩;exact ⟨rfl,rfl,(kA.trans k1).trans k2⟩
  | ok q2=>
   obtain ⟨a,us2⟩:=q2;go_in
   go_wp2_with fail
   refine h2.out.mono ?_;rintro e w1 ⟨rfl,hp1,k1⟩;have h3:=AD (G5 (us:=us) hp1 hev.1 hev.2);rw [hr2] at h3;go_wp2_with fail
   refine h3.out.mono ?_;rintro e w2 ⟨⟨v,rfl,own,hp2⟩,k2⟩;have hsz1:w.heap.size+1≤w1.heap.size:=by have:=k1.size;rw [AX] at this;exact this
   have hR:=gW (hA.keeps (k1.trans k2) (by simp;omega)) (.string (AV a.name.g)) (.string (BB a.name.g)) (.int .i64 a.name.line) v (.bool false);obtain ⟨c0,f0,c1,f1,c2,f2,c3,f3,c4,f4,hat,hk⟩:=hR;have Hat:=AD hat;have Hk:=AD hk;obtain ⟨av,cv,hv⟩:=Al own;subst hv;have Hown:=AD own;clear hat hk own;go_wp2_with fail
   refine bodyPost_ret (v:=.agg #[.string (AV a.name.g),.string (BB a.name.g),.int .i64 a.name.line,.slice av a.terms.length cv,.bool false]) (EO (p:=2) (ty:=353) (by kernel_rfl) _ Hat.out Tryz.underlying353 XT rfl) rfl ⟨⟨_,rfl,?_,hp2.keeps Hk.out (by simp;omega) (by simp;omega)⟩,((kA.trans k1).trans k2).trans_new Hk.out (by simp)⟩;exact BZ (AH Hown.out Hk.out (fun j hj h=>by have:=(As Hown.out j hj).1;have e:j=w.heap.size:=(by simpa using h);omega)) (by omega)
def El (l:Dn) (v:Value):List Value:=[.string (AV l.atom.name.g),.string (BB l.atom.name.g),.int .i64 l.atom.name.line,v,.bool l.no]
theorem Bd {w:World} {base:Nat} {e:TypeId} {size n:Nat} {v:Value} {xs:List Value} (h:w.ownsRow base e size v n xs):∀ i,v.ownBlock=some i→base≤i∧i<w.heap.size:=fun i hi=>by
 obtain ⟨h1,cs,t,hh⟩:=As h i hi;refine ⟨h1,?_⟩;rcases BP i w.heap.size with h | h
 ·exact h
 ·rw [DN h] at hh;cases hh
def Dk (w:World) (base:Nat) (X:List Nat):List Dn→List Value→Prop
 | [],cs=>cs=[]
 | l :: ls,cs=>∃ v rest,cs=El l v++rest∧w.ownsRow base 129 3 v l.atom.terms.length (De l.atom.terms)∧(∀ j,v.ownBlock=some j→j∉X)∧Dk w base X ls rest
theorem Dk.keeps {w w':World} {base:Nat} {X T:List Nat} {ls:List Dn} {cs:List Value} (h:Dk w base X ls cs) (k:AA T w w') (hT:∀ j∈T,j∈X∨j<base∨w.heap.size≤j:=by simp):Dk w' base X ls cs:=by
 induction ls generalizing cs with
 | nil=>exact h
 | cons l ls ih=>
  obtain ⟨v,rest,h1,h2,h3,h4⟩:=h;refine ⟨v,rest,h1,AH h2 k (fun j hj hjT=>?_),h3,ih h4⟩;have:=Bd h2 j hj;rcases hT j hjT with h | h | h
  ·exact h3 j hj h
  ·omega
  ·omega
theorem Dk.apart {w:World} {base:Nat} {X Y:List Nat} {ls:List Dn} {cs:List Value} (h:Dk w base X ls cs) (hY:∀ j∈Y,j∈X∨w.heap.size≤j):Dk w base Y ls cs:=by
 induction ls generalizing cs with
 | nil=>exact h
 | cons l ls ih=>
  obtain ⟨v,rest,h1,h2,h3,h4⟩:=h;refine ⟨v,rest,h1,h2,fun j hj hjY=>?_,ih h4⟩;have:=Bd h2 j hj;rcases hY j hjY with h | h
  ·exact h3 j hj h
  ·omega
theorem Dk.snoc {w:World} {base:Nat} {X:List Nat} {ls:List Dn} {cs:List Value} (h:Dk w base X ls cs) {l:Dn} {v:Value} (h2:w.ownsRow base 129 3 v l.atom.terms.length (De l.atom.terms)) (h3:∀ j,v.ownBlock=some j→j∉X):Dk w base X (ls++[l]) (cs++El l v):=by
 induction ls generalizing cs with
 | nil=>
  have:cs=[]:=h;subst this;exact ⟨v,[],by simp,h2,h3,rfl⟩
 | cons x ls ih=>
  obtain ⟨u,rest,h1,k2,k3,k4⟩:=h;exact ⟨u,rest++El l v,by rw [h1,Ab],k2,k3,ih k4⟩
theorem Dk.mono {w:World} {base base':Nat} {X:List Nat} {ls:List Dn} {cs:List Value} (h:Dk w base X ls cs) (hb:base'≤base):Dk w base' X ls cs:=by
 induction ls generalizing cs with
 | nil=>exact h
 | cons l ls ih=>
  obtain ⟨v,rest,h1,h2,h3,h4⟩:=h;exact ⟨v,rest,h1,BZ h2 hb,h3,ih h4⟩
structure CL (w:World) (rb cb b g:Nat) (nm:Tn) (terms:List Tn) (hv:Value) (d:List Dn) (lv:Value) (cs:List Value) (us:List Tn):Prop where
 res:AK w rb #[.string ⟨#[]⟩,.string ⟨#[]⟩,.int .i64 0,.slice none 0 0,.slice none 0 0]
 cl:AK w cb #[.string (AV nm.g),.string (BB nm.g),.int .i64 nm.line,hv,lv]
 rc:rb<cb
 low:b<rb∧g<rb
 head:w.ownsRow rb 129 3 hv terms.length (De terms)
 headA:∀ j,hv.ownBlock=some j→j∉[rb,cb]∧lv.ownBlock≠some j
 lits:w.ownsRow rb 353 5 lv d.length cs
 litsA:∀ j,lv.ownBlock=some j→j∉[rb,cb]
 are:Dk w rb ([rb,cb]++lv.ownBlock.toList) d cs
 at_:HL w b g us
theorem CL.go {w w':World} {rb cb b g:Nat} {nm:Tn} {terms:List Tn} {hv:Value} {d:List Dn} {lv:Value} {cs:List Value} {us us':List Tn} (h:CL w rb cb b g nm terms hv d lv cs us) (k:AA [b] w w') (hp:HL w' b g us'):CL w' rb cb b g nm terms hv d lv cs us':=by
 have:=h.low;have:=h.rc;refine ⟨h.res.keeps k (by simp;omega),h.cl.keeps k (by simp;omega),h.rc,h.low,AH h.head k (fun j hj hT=>?_),h.headA,AH h.lits k (fun j hj hT=>?_),h.litsA,h.are.keeps k (fun j hj=>?_),hp⟩
 ·have:=(As h.head j hj).1;have e:j=b:=(by simpa using hT);omega
 ·have:=(As h.lits j hj).1;have e:j=b:=(by simpa using hT);omega
 ·have e:j=b:=(by simpa using hj);omega
theorem CL.drew {w:World} {rb cb b g:Nat} {nm:Tn} {terms:List Tn} {hv:Value} {d:List Dn} {lv:Value} {cs:List Value} {us:List Tn} (h:CL w rb cb b g nm terms hv d lv cs us):CL w.drew rb cb b g nm terms hv d lv cs us:=h.go (AA.drew _ _) (h.at_.keeps (AA.drew [] w) (by simp) (by simp))
theorem CL.push {w w2 w3:World} {rb cb b g:Nat} {nm:Tn} {terms:List Tn} {hv:Value} {d:List Dn} {lv:Value} {cs:List Value} {us:List Tn} (h:CL w rb cb b g nm terms hv d lv cs us) {l:Dn} {tv:Value} (hrow:w.ownsRow rb 129 3 tv l.atom.terms.length (De l.atom.terms)) (hrowA:∀ j,tv.ownBlock=some j→j∉[rb,cb]++lv.ownBlock.toList∧j<w.heap.size)
  (k2:AA lv.ownBlock.toList w w2) {gg cap:Nat} (hgg:lv.ownBlock=some gg∨w.heap.size≤gg) (own:w2.ownsRow rb 353 5 (.slice (some ⟨gg,0,none⟩) (d.length+1) cap) (d.length+1) (cs++El l tv)) (hw3:w3=w2.setCell ⟨cb,4,none⟩ (.slice (some ⟨gg,0,none⟩) (d.length+1) cap)):CL w3 rb cb b g nm terms hv (d++[l]) (.slice (some ⟨gg,0,none⟩) (d.length+1) cap) (cs++El l tv) us:=by
 subst hw3;have hlow:=h.low;have hrc:=h.rc;have hcbl:=h.cl.lt;have hcl2:=h.cl.keeps k2 (fun hT=>h.litsA cb (by simpa using hT) (by simp));have hres2:=h.res.keeps k2 (fun hT=>h.litsA rb (by simpa using hT) (by simp));have hat2:=h.at_.keeps k2 (fun hT=>by have:=(As h.lits b (by simpa using hT)).1;omega) (fun hT=>by have:=(As h.lits g (by simpa using hT)).1;omega);have hggA:gg∉[rb,cb]:=by
  rcases hgg with e | e
  ·exact h.litsA gg e
  ·simp;omega
 have ks:=AA.setCell w2 ⟨cb,4,none⟩ (.slice (some ⟨gg,0,none⟩) (d.length+1) cap);have hh2:=AH h.head k2 (fun j hj hT=>(h.headA j hj).2 (by simpa using hT));have hY:∀ j∈[rb,cb]++[gg],j∈[rb,cb]++lv.ownBlock.toList∨w.heap.size≤j:=by
  intro j hj;rcases AC.1 hj with hj | hj
  ·exact .inl (AN _ hj)
  ·have e:j=gg:=(by simpa using hj);rcases hgg with e' | e'
   ·left;rw [e,e'];simp
   ·right;omega
 refine ⟨hres2.keeps ks (by simp;omega),hcl2.setCell 4 _,h.rc,h.low,AH hh2 ks (fun j hj hT=>?_),fun j hj=>⟨(h.headA j hj).1,fun e=>?_⟩,?_,fun j hj=>?_,?_,hat2.keeps ks (by simp;omega) (by simp;omega)⟩
 ·have e:j=cb:=(by simpa using hT);exact (h.headA j hj).1 (by simp [e])
 ·have e:gg=j:=(by simpa [Value.ownBlock] using e);rcases hgg with e' | e'
  ·exact (h.headA j hj).2 (by rw [e',e])
  ·have:=(Bd h.head j hj).2;omega
 ·rw [AJ,Ah];exact AH own ks (fun j hj hT=>by have e:j=cb:=(by simpa using hT);have e2:gg=j:=(by simpa [Value.ownBlock] using hj);exact hggA (by simp [e2,e]))
 ·have e:gg=j:=(by simpa [Value.ownBlock] using hj);rw [←e];exact hggA
 ·have are2:=(h.are.apart (Y:=[rb,cb]++[gg]++lv.ownBlock.toList) (fun j hj=>by
   rcases AC.1 hj with hj | hj
   ·exact hY j hj
   ·exact .inl (AT _ hj))).keeps k2 (fun j hj=>.inl (AT _ hj))
  have are3:=are2.snoc (l:=l) (v:=tv) (AH hrow k2 (fun j hj hT=>(hrowA j hj).1 (AT _ hT))) (fun j hj hT=>by
   rcases AC.1 hT with hT | hT
   ·rcases hY j hT with h' | h'
    ·exact (hrowA j hj).1 h'
    ·have:=(hrowA j hj).2;omega
   ·exact (hrowA j hj).1 (AT _ hT))
  have are4:=are3.keeps ks (fun j hj=>.inl (by have e:j=cb:=(by simpa using hj);simp [e]));refine are4.apart (fun j hj=>.inl ?_);simp [Value.ownBlock] at hj ⊢;rcases hj with h | h | h <;> simp [h]
end
end Go.Proofs.YtgjomknpjigkhaaGreatDoor
