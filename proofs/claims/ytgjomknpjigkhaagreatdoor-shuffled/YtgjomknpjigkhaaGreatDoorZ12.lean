import Derived.Test.YtgjomknpjigkhaaGreatDoorZ11
import Derived.Laws.CopyOwn
namespace Go.Proofs.YtgjomknpjigkhaaGreatDoor
open Go.Proofs.Tryz
set_option maxRecDepth 100000
set_option maxHeartbeats 4000000
section
open Go.RowKit
def JU (S:ST) (hs:List Int) (Hs:List (List Nat→Prop)):Prop:=hs.length=Hs.length∧∀ (i:Nat) (h:Int) (H:List Nat→Prop),hs[i]?=some h→Hs[i]?=some H→GW S h 4 H
theorem JU.ext {S S':ST} {hs:List Int} {Hs:List (List Nat→Prop)} (h:JU S hs Hs) (x:EK S S') (hw:WF S) (hw':WF S'):JU S' hs Hs:=⟨h.1,fun i a b h1 h2=>(h.2 i a b h1 h2).ext x hw hw'⟩
def M1 (Hs:List (List Nat→Prop)) (j:Nat) (ν:List Nat):Prop:=∀ (i:Nat) (H:List Nat→Prop),i<j→Hs[i]?=some H→H ν
theorem Zk {Hs:List (List Nat→Prop)} {j:Nat} {H:List Nat→Prop} (h:Hs[j]?=some H) (ν:List Nat):M1 Hs (j+1) ν↔M1 Hs j ν∧H ν:=by
 constructor
 ·exact fun hh=>⟨fun i G hi hG=>hh i G (by omega) hG,hh j H (by omega) h⟩
 ·rintro ⟨h1,h2⟩ i G hi hG;by_cases e:i<j
  ·exact h1 i G e hG
  ·have:i=j:=(by omega);subst this;rw [h] at hG;cases hG;exact h2
def brings (ts:List BN) (Φ:List Nat→Prop) (l:List Nat):Prop:=∃ ν,ν∈DP 4∧Φ ν∧ts.map (Ia ν)=l
def nG (Xs:Nat→List Nat→Prop) (i:Nat) (X:List Nat→Prop):Nat→List Nat→Prop:=fun j l=>if j=i then Xs i l∨X l else Xs j l
def ruV (ρ:Nat) (ta:Option Addr) (tn tc:Nat) (la:Option Addr) (ln lc:Nat) (ha:Option Addr) (hn hc:Nat):Value:=.agg #[.int .i64 (ρ:Int),.slice ta tn tc,.slice la ln lc,.slice ha hn hc]
theorem O7 {w:World} {bb gr cr:Nat} {B:SB} {S:ST} {rs:List BF} {x0 x1 x3:Value} (h:F9 w bb B S gr cr rs x0 x1 x3) {gf cf:Nat} {fs:List Int} (hrow:B8 w gf fs) (hgf:gf∉B.own) (hgb:gf≠bb) {Xs:Nat→List Nat→Prop} (hf:Fl S rs fs Xs) {ρ gt tc ln lc gh ch:Nat} {la:Option Addr} {ts:List BN} (htr:ID w gt ts) (hgt:gt∉gf :: B.own) (htm:∀ t∈ts,JQ t) {r:BF} (hr:rs[ρ]?=some r) (htl:ts.length=r.n) {hs:List Int} {Hs:List (List Nat→Prop)} (hh:B8 w gh hs) (hgh:gh∉gf :: B.own) (hH:JU S hs Hs) (h4:hs.length≤4) {f:Int} {Φ:List Nat→Prop} (hΦ:GW S f 4 Φ) (hl:S.next+33900000<GN) :
  Calls prog 264 #[.pointer (some ⟨bb,0,none⟩),.slice (some ⟨gf,0,none⟩) fs.length cf,ruV ρ (some ⟨gt,0,none⟩) ts.length tc la ln lc (some ⟨gh,0,none⟩) hs.length ch,.int .i64 f] w fun e w'=>e=.returned (.tuple #[])∧∃ fs' S',DB w' B S'∧B8 w' gf fs'∧AA (gf :: B.own) w w'∧EK S S'∧S'.next≤S.next+33800000∧Fl S' rs fs' (nG Xs ρ (brings ts (fun ν=>Φ ν∧M1 Hs hs.length ν))):=by
 have h6:=h.few;have hρ:ρ<rs.length:=(AL.1 hr).1;have hρf:ρ<fs.length:=by rw [hf.1];exact hρ
 have hρI:(ρ:Int)<fs.length:=by omega
 have hn3:=h.cols r (AE hr);have hgtB:gt∉B.own:=fun q=>hgt (AP _ q);have hghB:gh∉B.own:=fun q=>hgh (AP _ q);have kA:=AA.alloc [] w (.cells #[.int .i64 (ρ:Int),.slice (some ⟨gt,0,none⟩) ts.length tc,.slice la ln lc,.slice (some ⟨gh,0,none⟩) hs.length ch] 295);have hA:=AK.new w #[.int .i64 (ρ:Int),.slice (some ⟨gt,0,none⟩) ts.length tc,.slice la ln lc,.slice (some ⟨gh,0,none⟩) hs.length ch] 295;have Hl:=AD hl;have Hfr:=AD (fun j (hj:w.heap.size≤j)=>h.eng.sat.fresh hj);have Htl:=AD htl;unfold ruV;have hbA:=h.keeps0 kA;have hrA:=hrow.keepsE kA;have htA:=htr.keeps kA;have hhA:=hh.keepsE kA;have hgl:=hrow.lt;generalize hWA:w.alloc (.cells #[.int .i64 (ρ:Int),.slice (some ⟨gt,0,none⟩) ts.length tc,.slice la ln lc,.slice (some ⟨gh,0,none⟩) hs.length ch] 295)=WA at *;have a0:=hA.cell 0;have a1:=hA.cell 1;have a3:=hA.cell 3;simp at a0 a1 a3;clear hl htl;go_in
 go_wp2_with fail
 clear hWA a0 a1 a3;go_loopw [3,14] (fun x y wr=>∃ (j:Nat) (q:Int) (S':ST),x=.int .i64 q∧y=.int .i64 j∧j≤hs.length∧DB wr B S'∧AA B.own WA wr∧EK S S'∧S'.next≤S.next+4095 * j∧GW S' q 4 (fun ν=>Φ ν∧M1 Hs j ν)) (fun _ y _=>((hs.length:Int) - intOf y).toNat)
 case atStart=>exact ⟨0,f,S,rfl,rfl,by omega,hbA.eng,AA.refl _ _,EK.refl S,by omega,hΦ.iff fun ν _=>⟨fun q=>⟨q,fun i H hi=>by omega⟩,fun q=>q.1⟩⟩
 case round=>
  obtain ⟨j,q,S',rfl,rfl,hj,hE,hk,hx,hn,hq⟩:=hrel;have Hn:=AD hn;clear hn;have hbr:=hbA.store hk hE;have g4:=hbr.bs.cell;by_cases hjl:j<hs.length
  ·have hjI:(j:Int)<hs.length:=(by omega);have hhr:=hhA.keepsE hk hghB;obtain ⟨y,hy⟩:∃ y,hs[j]?=some y:=⟨_,AB hjl⟩;obtain ⟨H,hHj⟩:∃ H,Hs[j]?=some H:=⟨_,AB (by rw [←hH.1];exact hjl)⟩;have g0:=hhr.cell hy;have hy4:=(hH.2 j y H hy hHj).ext hx h.eng.wf hE.wf;have hand:=AD (eX hE (f:=q) (g:=y) ⟨hq.1,hq.2⟩ ⟨hy4.1,hy4.2⟩ (by have:=Hl.out;have:=Hn.out;omega));have Hst:=AD (Zk hHj);clear hy hHj hy4;go_wp2_with fail
   refine hand.out.mono ?_;rintro e W5 ⟨t,S5,rfl,hE5,k5,x5,n5,hr5⟩;have Hn5:=AD n5;clear n5 hand;go_wp2_with fail
   go_roundw
   ·exact ⟨j+1,t,S5,rfl,by simp,by omega,hE5,hk.trans k5,hx.trans x5,by have:=Hn.out;have:=Hn5.out;push_cast;omega,hr5.1,fun σ=>by rw [hr5.2];exact ⟨fun hh=>⟨hh.1.1,(Hst.out _).2 ⟨hh.1.2,hh.2⟩⟩,fun hh=>⟨⟨hh.1,((Hst.out _).1 hh.2).1⟩,((Hst.out _).1 hh.2).2⟩⟩⟩
   ·simp only [intOf];omega
  ·have hjI:¬ (j:Int)<hs.length:=(by omega);have e:j=hs.length:=(by omega);subst e;have hAr:=hA.keeps hk (Hfr.out _ (AQ _));have htr':=htA.keeps hk hgtB;have hrr:=hrA.keepsE hk hgf;obtain ⟨y,hy⟩:∃ y,fs[ρ]?=some y:=⟨_,AB hρf⟩;have a0:=hAr.cell 0;have a1:=hAr.cell 1;simp at a0 a1;have g0:=hrr.cell hy;have hhd:=AD (fun (W:World) (k:AA [] wr W)=>Xq (c:=tc) (ρ:=(ρ:Int)) (hE.keeps0 k) (hbr.bs.keeps k) hgtB (htr'.keeps k) htm (by rw [Htl.out];exact hn3) hq (by have:=Hl.out;have:=Hn.out;omega));have hyX:=(hf.2 ρ r y hr hy).ext hx h.eng.wf hE.wf;have hnz:w.heap.size≠gf:=by omega
   have h7:=AD (fun (W7:World) (k:AA B.own wr.drew W7) (v:Value)=>
    let hb7:=(hbr.bs.keeps (AA.drew [] wr)).own k;let hA7:=(hAr.keeps (AA.drew [] wr)).keeps k (Hfr.out _ (AQ _));let hr7:=(hrr.keepsE (AA.drew [] wr)).keepsE k hgf;let kS:=AA.setCell W7 ⟨gf,ρ,none⟩ v;Ak hb7.cell <| Ak (show W7.cell? ⟨w.heap.size,0,none⟩=some (.int .i64 (ρ:Int)) from by have:=hA7.cell 0;simpa using this) <| Ak (show W7.cell? ⟨w.heap.size,1,none⟩=some (.slice (some ⟨gt,0,none⟩) ts.length tc) from by have:=hA7.cell 1;simpa using this) <| Ak (hr7.cell hy) <| Ak (hr7.frozenE ρ) <|
    Ak (hb7.keeps kS (by simpa using Ne.symm hgb)).cell <| Ak (show (W7.setCell ⟨gf,ρ,none⟩ v).cell? ⟨w.heap.size,0,none⟩=some (.int .i64 (ρ:Int)) from by have:=(hA7.keeps kS (by simpa using hnz)).cell 0;simpa using this) (show (W7.setCell ⟨gf,ρ,none⟩ v).cell? ⟨w.heap.size,1,none⟩=some (.slice (some ⟨gt,0,none⟩) ts.length tc) from by have:=(hA7.keeps kS (by simpa using hnz)).cell 1;simpa using this))
   have Hy:=AD hy;have Hr:=AD hr;clear hy hr;go_wp2_with fail
   go_region_law (first
    | (refine A2 rfl 74 _ _ rfl _ func74 (by kernel_rfl) (by kernel_rfl) [.pointer (some ⟨bb,0,none⟩),.int .i64 q,.agg #[.int .i64 (ρ:Int),.slice (some ⟨gt,0,none⟩) ts.length tc]] rfl ?_
       refine (hhd.out _ (AA.drew [] _)).mono ?_;rintro e W5 ⟨t,S5,rfl,hE5,k5,x5,n5,hr5⟩
       obtain ⟨b0,b1,b2,b3,b4,_⟩:=h7.out W5 k5 undef)
    | (refine A2 rfl 73 _ _ rfl _ func73 (by kernel_rfl) (by kernel_rfl) [.pointer (some ⟨B.b,0,none⟩),.int .i64 y,.int .i64 t] rfl ?_
       refine (iD hE5 (f:=y) (g:=t) (GL.ext ⟨hyX.1,hyX.2⟩ x5 hE.wf hE5.wf) hr5 (by have:=Hl.out;have:=Hn.out;omega)).mono ?_;rintro e W6 ⟨t6,S6,rfl,hE6,k6,x6,n6,hr6⟩
       obtain ⟨c0,c1,c2,c3,c4,_⟩:=h7.out W6 (k5.trans k6) undef))
   all_goals
    have kS:=AA.setCell W6 ⟨gf,ρ,none⟩ (.int .i64 t6);have hrS:=((hrr.keepsE (AA.drew [] wr)).keepsE (k5.trans k6) hgf).setE ρ t6;have hES:=hE6.keeps kS (fun z hz hm=>hgf (by simp only [AF] at hm;rw [←hm];exact hz));go_wp2_with fail
    go_end0
    refine ⟨rfl,fs.set ρ t6,S6,hES,hrS,((((kA.mono (by simp)).trans (hk.mono (fun z hz=>AP _ hz))).trans ((AA.drew [] wr).mono (by simp))).trans ((k5.trans k6).mono (fun z hz=>AP _ hz))).trans (kS.mono (by simp)),hx.trans (x5.trans x6),by have:=Hn.out;omega,by rw [BI];exact hf.1,fun i q' z hq' hz=>?_⟩;rw [Aw] at hz;unfold nG;by_cases e:ρ=i
    ·subst e;rw [if_pos rfl,if_pos hρf] at hz;cases hz;rw [Hr.out] at hq';cases hq';refine ⟨hr6.1,fun σ=>?_⟩;rw [hr6.2];simp only [if_true];rw [←Htl.out];exact Iff.rfl
    ·rw [if_neg e] at hz;refine (((hf.2 i q' z hq' hz).ext (hx.trans (x5.trans x6)) h.eng.wf hE6.wf)).iff fun l _=>?_;rw [if_neg (fun q=>e q.symm)]
theorem Y0 (w:World) (n:Nat) (hn:n≤6):Calls prog 300 #[.int .u64 1,.int .u64 (n:Int)] w fun e w'=>e=.returned (.tuple #[.int .u64 0,.int .u64 (n:Int)])∧w' = w:=by
 have e1:bits BinOp.and IntKind.u64 1 4294967295=1:=by decide
 have h:n=0∨n=1∨n=2∨n=3∨n=4∨n=5∨n=6:=by omega
 have e2:bits BinOp.and IntKind.u64 (n:Int) 4294967295=n:=by rcases h with rfl | rfl | rfl | rfl | rfl | rfl | rfl <;> decide
 have e3:bits BinOp.and IntKind.u64 0 4294967295=0:=by decide
 have e4:(n:Int) / 4294967296=0:=by omega
 have e5:IntKind.u64.wrap 0=0:=by decide
 clear h;go_in
 go_wp2
 go_ret2
 exact ⟨rfl,rfl⟩
theorem iI (w:World) (n:Nat) (hn:n≤6):Calls prog 291 #[.int .u64 1,.int .u64 (n:Int)] w fun e w'=>e=.returned (.tuple #[.int .u64 0,.int .u64 (n:Int)])∧w' = w:=by
 have hm:=AD (Y0 w n hn);go_in
 go_wp2_with fail
 refine hm.out.mono ?_;rintro e w' ⟨rfl,rfl⟩;go_wp2_with fail
 go_ret2
 exact ⟨rfl,rfl⟩
theorem TV {n off m:Nat} (z:Value) (h:off+m≤n):splice (List.replicate n z) off (List.replicate m z)=List.replicate n z:=by
 unfold splice;rw [List.take_replicate,List.drop_replicate,BY,List.replicate_append_replicate,List.replicate_append_replicate];congr 1
 omega
theorem Yb (b k n:Nat) (h:k<n) (w:World):(Instr.slice 40 (.slice (some ⟨b,0,none⟩) n n) (some (.int .i64 (k:Int))) none none).run prog w=.ok (.slice (some ⟨b,k,none⟩) (n - k) (n - k)) w:=by
 rw [run_slice_l (P:=prog) w 40 _ _ _ (by kernel_rfl) .i64 k (by omega) (by omega)];have:¬ n=k:=by omega
 simp [go_sem,sliced,this,Addr.add];intro h;exact h.symm
theorem UD (n:Nat):madeCells #[.int .i64 0] n=(List.replicate n (Value.int .i64 0)).toArray:=by
 have:=toList_madeCells_one (.int .i64 0) n;rw [←this]
def RepTo (w:World) (n:Nat) (e:Ending) (w':World):Prop:=∃ g c,e=.returned (.slice (some ⟨g,0,none⟩) n c)∧w.heap.size≤g∧B8 w' g (List.replicate n 0)∧AA [] w w'
theorem L4 {w:World} {gx cx n:Nat} (hx:w.cell? ⟨gx,0,none⟩=some (.int .i64 0)) (hgx:gx<w.heap.size) (hn:n≤6):Calls prog 263 #[.slice (some ⟨gx,0,none⟩) 1 cx,.int .i64 (n:Int)] w (RepTo w n):=by
 have hm:=AD (iI w n hn);have hmk:=Kb w n (by omega);rw [UD] at hmk;have hsz:(prog.info? 3).map (·.size)=some 1:=by kernel_rfl
 have hblk:(w.alloc (.cells (List.replicate n (Value.int .i64 0)).toArray 3)).heap[w.heap.size]?=some (.cells (List.replicate n (Value.int .i64 0)).toArray 3 (0,0)):=World.alloc_heap_new w _;have hbel:Go.RowKit.Below w.heap.size w (w.alloc (.cells (List.replicate n (Value.int .i64 0)).toArray 3)):=(AA.alloc [] w _).below (AQ _) (by simp);have hsrc:∀ j v,(List.replicate (Nat.min 1 n) (Value.int .i64 0))[j]?=some v→(w.alloc (.cells (List.replicate n (Value.int .i64 0)).toArray 3)).cell? ((⟨gx,0,none⟩:Addr).add j)=some v:=fun j v hj=>by
  rw [BC] at hj;split at hj
  ·rename_i hlt;cases hj;have e:j=0:=by have:Nat.min 1 n≤1:=Nat.min_le_left _ _;omega
   subst e;rw [Addr.add_lit,FF (AA.alloc [] w _) hgx (by simp)];exact hx
  ·cases hj
 have hone:∀ m,∀ v∈List.replicate m (Value.int .i64 0),v.oneCell' = true:=fun m v hv=>by rw [List.eq_of_mem_replicate hv];rfl
 have Hm1:Hid (Nat.min 1 n≤n∧Nat.min 1 n≤1∧(1≤n→Nat.min 1 n=1)):=⟨Nat.min_le_right _ _,Nat.min_le_left _ _,fun h=>CA h⟩;generalize hmm:Nat.min 1 n=m1 at hsrc Hm1;have Hmm:=AD hmm;clear hmm;go_in
 go_wp2_with fail
 refine hm.out.mono ?_;rintro e w' ⟨rfl,rfl⟩;rename World=>w;generalize hW:w.alloc (.cells (List.replicate n (Value.int .i64 0)).toArray 3)=W at *;go_wp2_with (refine wpList_copy_splice rfl _ _ 40 40 rfl 3 underlying40 hsz (some ⟨w.heap.size,0,none⟩) (some ⟨gx,0,none⟩) n n 1 cx rfl rfl w.heap.size 0 (List.replicate n (Value.int .i64 0)) 3 hblk (List.replicate m1 (Value.int .i64 0)) (by rw [BY,Hmm.out]) (fun _=>⟨rfl,_,rfl,hsrc⟩) (by rw [BY,BY];have:=Hm1.out;omega) (hone _) w.heap.size w hbel (AQ _) ?_)
 intro W1 hb1 hl1;rw [TV _ (by have:=Hm1.out;omega)] at hb1;have hb1':Hid (W1.heap[w.heap.size]?=some (.cells (List.replicate n (Value.int .i64 0)).toArray 3 (0,0))):=hb1;clear hb1 hsrc hbel hblk hmk hW hm hx;go_wp2_with fail
 go_loopw [8] (fun x wr=>∃ k:Nat,x=.int .i64 k∧k≤n∧(1≤n→1≤k)∧Hid (wr.heap[w.heap.size]?=some (.cells (List.replicate n (Value.int .i64 0)).toArray 3 (0,0)))∧Go.RowKit.Below w.heap.size w wr) (fun x _=>((n:Int) - intOf x).toNat)
 case atStart=>exact ⟨m1,rfl,by have:=Hm1.out;omega,by have:=Hm1.out;omega,hb1',hl1⟩
 case round=>
  obtain ⟨k,rfl,hkn,hk1,hbr,hlr⟩:=hrel;by_cases hlt:k<n
  ·have hltI:(k:Int)<n:=(by omega);have ht:=Yb w.heap.size k n hlt;have hh:=Oa w.heap.size k n n (by omega) (by omega);have hks:=hk1 (by omega);have hsrc:∀ j v,(List.replicate (Nat.min k (n - k)) (Value.int .i64 0))[j]?=some v→wr.cell? ((⟨w.heap.size,0,none⟩:Addr).add j)=some v:=fun j v hj=>by
    have hc:AK wr w.heap.size (List.replicate n (Value.int .i64 0)).toArray:=⟨_,hbr.out⟩;rw [BC] at hj;split at hj
    ·rename_i hj';cases hj;have:Nat.min k (n - k)≤k:=Nat.min_le_left _ _;rw [Addr.add_lit,hc.cell,List.getElem?_toArray,BC,if_pos (by omega)]
    ·cases hj
   have Hm2:Hid (Nat.min k (n - k)≤n - k∧1≤Nat.min k (n - k)):=⟨Nat.min_le_right _ _,Nat.le_min.2 ⟨hks,by omega⟩⟩;generalize hmm:Nat.min k (n - k)=m2 at hsrc Hm2;have Hmm2:=AD hmm;have Hk1:=AD hk1;clear hmm hk1 hks;obtain ⟨W2,hrun,hb2,hl2⟩:∃ W2,(∀ ty,(Builtin.copy_ #[40,40] ty #[.slice (some ⟨w.heap.size,k,none⟩) (n - k) (n - k),.slice (some ⟨w.heap.size,0,none⟩) k n]).run prog wr.drew=.ok (.int .i64 (m2:Int)) W2)∧Hid (W2.heap[w.heap.size]?=some (.cells (List.replicate n (Value.int .i64 0)).toArray 3 (0,0)))∧Go.RowKit.Below w.heap.size w W2:=by
    have hr0:=fun ty=>run_copy_row (P:=prog) wr.drew 40 40 ty 3 w.heap.size k (n - k) (n - k) ⟨w.heap.size,0,none⟩ k n (List.replicate n (Value.int .i64 0)).toArray 3 (List.replicate m2 (Value.int .i64 0)) underlying40 hsz hbr.out (by rw [BY,Hmm2.out]) hsrc (by simp;have:=Hm2.out;omega) (hone _);have erow:(List.replicate n (Value.int .i64 0)).toArray.toList.take k++List.replicate m2 (Value.int .i64 0)++(List.replicate n (Value.int .i64 0)).toArray.toList.drop (k+(List.replicate m2 (Value.int .i64 0)).length)=List.replicate n (Value.int .i64 0):=by
     have:=Hm2.out;simp only [List.take_replicate,List.drop_replicate,BY,List.replicate_append_replicate];congr 1
     omega
    exact ⟨wr.drew.setRow w.heap.size (List.replicate n (Value.int .i64 0)).toArray,fun ty=>by rw [hr0 ty,erow,BY];rfl,setRow_heap wr.drew w.heap.size _ _ 3 _ hbr.out,below_setRow (hlr.trans ((AA.drew [] wr).below hlr.size (by simp))) (AQ _) _⟩
   have hm6:(m2:Int)≤6:=by have:=Hm2.out;omega
   obtain ⟨km,hkm⟩:∃ km,k+m2=km:=⟨_,rfl⟩;have hwr:IntKind.i64.wrap ((k:Int)+(m2:Int))=(km:Int):=by rw [IntKind.wrap_i64];omega
   have Hkm:=AD hkm;have h0:=hbr.out;clear hkm hm6 hsrc hbr hlr h0;go_wp2_with fail
   go_region_held3 (fun _=>True) (exact trivial) (fail)
   all_goals
    go_wp2_with fail
    go_roundw
    ·exact ⟨km,rfl,by have:=Hm2.out;have:=Hkm.out;omega,fun h=>by have:=Hm2.out;have:=Hkm.out;omega,hb2,hl2⟩
    ·simp only [intOf];have:=Hm2.out;have:=Hkm.out;omega
  ·have hltI:¬ (k:Int)<n:=(by omega);have e:k=n:=(by omega);subst e;go_wp2_with fail
   go_ret
   refine ⟨w.heap.size,k,rfl,AQ _,⟨(List.replicate k (Value.int .i64 0)).toArray,⟨3,hbr.out⟩,fun i x hx=>?_⟩,⟨hlr.os,hlr.tape,hlr.output,hlr.size,fun i hi _=>hlr.block i hi⟩⟩;rw [BC] at hx;split at hx
   ·rename_i hi;cases hx;rw [List.getElem?_toArray,BC,if_pos hi]
   ·cases hx
structure CluX where
 c:Ac
 gt:Nat
 tc:Nat
 la:Option Addr
 lc:Nat
 lt:List (Nat×Nat)
structure Ss (w:World) (gl k:Nat) (l:BW×Bool) (g c:Nat):Prop where
 rel:w.cell? ⟨gl,k * 3,none⟩=some (.int .i64 (l.1.rel:Int))
 tms:w.cell? ⟨gl,k * 3+1,none⟩=some (.slice (some ⟨g,0,none⟩) l.1.terms.length c)
 no:w.cell? ⟨gl,k * 3+2,none⟩=some (.bool l.2)
 row:ID w g l.1.terms
structure Ix (w:World) (X:List Nat) (u:CluX):Prop where
 head:ID w u.gt u.c.head.terms
 headX:u.gt∉X
 lits:∀ (k:Nat) (l:BW×Bool),u.c.lits[k]?=some l→∃ gl g c,u.la=some ⟨gl,0,none⟩∧gl<w.heap.size∧gl∉X∧g∉X∧Ss w gl k l g c
theorem Ss.keeps {w w':World} {gl k g c:Nat} {l:BW×Bool} {T:List Nat} (h:Ss w gl k l g c) (kp:AA T w w') (hl:gl<w.heap.size) (h1:gl∉T) (h2:g∉T):Ss w' gl k l g c:=
 ⟨by rw [FF kp hl h1];exact h.rel,by rw [FF kp hl h1];exact h.tms,by rw [FF kp hl h1];exact h.no,h.row.keeps kp h2⟩
theorem Ix.keeps {w w':World} {X T:List Nat} {u:CluX} (h:Ix w X u) (k:AA T w w') (hT:∀ j∈T,j∈X∨w.heap.size≤j:=by simp):Ix w' X u:=by
 have ne:∀ {j},j∉X→j<w.heap.size→j∉T:=fun h1 h2 hm=>(hT _ hm).elim h1 (fun q=>by omega);refine ⟨h.head.keeps k (ne h.headX h.head.1),h.headX,fun i l hi=>?_⟩;obtain ⟨gl,g,c,h1,h2,h3,h4,h5⟩:=h.lits i l hi;exact ⟨gl,g,c,h1,A4 h2 k.size,h3,h4,h5.keeps k h2 (ne h3 h2) (ne h4 h5.row.1)⟩
theorem Ix.apart {w:World} {X Y:List Nat} {u:CluX} (h:Ix w X u) (hY:∀ j∈Y,j∈X∨w.heap.size≤j):Ix w Y u:=by
 have ne:∀ {j},j∉X→j<w.heap.size→j∉Y:=fun h1 h2 hm=>(hY _ hm).elim h1 (fun q=>by omega);refine ⟨h.head,ne h.headX h.head.1,fun i l hi=>?_⟩;obtain ⟨gl,g,c,h1,h2,h3,h4,h5⟩:=h.lits i l hi;exact ⟨gl,g,c,h1,h2,ne h3 h2,ne h4 h5.row.1,h5⟩
structure Zo (rs:List BF) (a:BW):Prop where
 rel:∃ r,rs[a.rel]?=some r∧a.terms.length=r.n∧0<r.n
 tms:∀ t∈a.terms,JQ t
structure Ny (rs:List BF) (c:Ac):Prop where
 head:Zo rs c.head
 lits:∀ l∈c.lits,Zo rs l.1
 few:c.lits.length≤4
theorem Zo.like {rs rs':List BF} {a:BW} (h:Zo rs a) (k:DV rs rs'):Zo rs' a:=by
 obtain ⟨r,h1,h2,h3⟩:=h.rel;obtain ⟨r',e1,e2⟩:=k.2 _ r h1;exact ⟨⟨r',e1,by rw [h2,e2.n],by rw [e2.n];exact h3⟩,h.tms⟩
theorem Ny.like {rs rs':List BF} {c:Ac} (h:Ny rs c) (k:DV rs rs'):Ny rs' c:=⟨h.head.like k,fun l hl=>(h.lits l hl).like k,h.few⟩
structure GV extends CluX where
 gh:Nat
 ch:Nat
 hs:List Int
structure RuC (cs:Array Value) (o:Nat) (u:GV):Prop where
 c0:cs[o]?=some (.int .i64 (u.c.head.rel:Int))
 c1:cs[o+1]?=some (.slice (some ⟨u.gt,0,none⟩) u.c.head.terms.length u.tc)
 c2:cs[o+2]?=some (.slice u.la u.c.lits.length u.lc)
 c3:cs[o+3]?=some (.slice (some ⟨u.gh,0,none⟩) u.hs.length u.ch)
structure FS (w:World) (X:List Nat) (gu:Nat) (us:List GV):Prop where
 cells:0<us.length→∃ cs,AK w gu cs∧∀ (i:Nat) (u:GV),us[i]?=some u→RuC cs (i * 4) u
 guX:0<us.length→gu∉X∧∀ u∈us,gu≠u.gh
 clu:∀ u∈us,Ix w (us.map (·.gh)++X) u.toCluX
 hld:∀ u∈us,B8 w u.gh u.hs∧u.gh∉X∧u.hs.length=u.c.lits.length
 nodup:(us.map (·.gh)).Nodup
theorem FS.keeps {w w':World} {X T:List Nat} {gu:Nat} {us:List GV} (h:FS w X gu us) (k:AA T w w') (hT:∀ j∈T,j∈X∨w.heap.size≤j:=by simp):FS w' X gu us:=by
 have ne:∀ {j},j∉X→j<w.heap.size→j∉T:=fun h1 h2 hm=>(hT _ hm).elim h1 (fun q=>by omega);refine ⟨fun h0=>?_,h.guX,fun u hu=>(h.clu u hu).keeps k (fun j hj=>(hT j hj).imp (fun q=>AC.2 (.inr q)) id),fun u hu=>?_,h.nodup⟩
 ·obtain ⟨cs,h1,h2⟩:=h.cells h0;exact ⟨cs,h1.keeps k (ne (h.guX h0).1 h1.lt),h2⟩
 ·obtain ⟨h1,h2,h3⟩:=h.hld u hu;exact ⟨h1.keepsE k (ne h2 h1.lt),h2,h3⟩
theorem FS.apart {w:World} {X Y:List Nat} {gu:Nat} {us:List GV} (h:FS w X gu us) (hY:∀ j∈Y,j∈X∨w.heap.size≤j):FS w Y gu us:=by
 have ne:∀ {j},j∉X→j<w.heap.size→j∉Y:=fun h1 h2 hm=>(hY _ hm).elim h1 (fun q=>by omega);refine ⟨h.cells,fun h0=>⟨?_,(h.guX h0).2⟩,fun u hu=>(h.clu u hu).apart (fun j hj=>?_),fun u hu=>?_,h.nodup⟩
 ·obtain ⟨cs,h1,h2⟩:=h.cells h0;exact ne (h.guX h0).1 h1.lt
 ·rcases AC.1 hj with q | q
  ·exact .inl (AC.2 (.inl q))
  ·exact (hY j q).imp (fun q=>AC.2 (.inr q)) id
 ·obtain ⟨h1,h2,h3⟩:=h.hld u hu;exact ⟨h1,ne h2 h1.lt,h3⟩
def Jm (S:ST) (us:List GV) (HS:Nat→List (List Nat→Prop)):Prop:=∀ (i:Nat) (u:GV),us[i]?=some u→JU S u.hs (HS i)
theorem Jm.ext {S S':ST} {us:List GV} {HS:Nat→List (List Nat→Prop)} (h:Jm S us HS) (x:EK S S') (hw:WF S) (hw':WF S'):Jm S' us HS:=fun i u hi=>(h i u hi).ext x hw hw'
def It (us:List GV) (HS:Nat→List (List Nat→Prop)) (j i:Nat) (l:List Nat):Prop:=∃ p u,p<j∧us[p]?=some u∧u.c.head.rel=i∧brings u.c.head.terms (fun ν=>M1 (HS p) u.hs.length ν) l
theorem Fl.iff {S:ST} {rs:List BF} {fs:List Int} {Xs Ys:Nat→List Nat→Prop} (h:Fl S rs fs Xs) (hi:∀ i l,Xs i l↔Ys i l):Fl S rs fs Ys:=⟨h.1,fun i r f h1 h2=>(h.2 i r f h1 h2).iff fun l _=>hi i l⟩
theorem QE {us:List GV} {HS:Nat→List (List Nat→Prop)} {j:Nat} {u:GV} (hu:us[j]?=some u) (i:Nat) (l:List Nat):nG (It us HS j) u.c.head.rel (brings u.c.head.terms (fun ν=>True∧M1 (HS j) u.hs.length ν)) i l↔It us HS (j+1) i l:=by
 unfold nG;have hb:brings u.c.head.terms (fun ν=>True∧M1 (HS j) u.hs.length ν) l↔brings u.c.head.terms (fun ν=>M1 (HS j) u.hs.length ν) l:=by unfold brings;simp
 constructor
 ·split
  ·rename_i e;subst e;rintro (⟨p,v,h1,h2,h3,h4⟩ | h)
   ·exact ⟨p,v,by omega,h2,h3,h4⟩
   ·exact ⟨j,u,by omega,hu,rfl,hb.1 h⟩
  ·rintro ⟨p,v,h1,h2,h3,h4⟩;exact ⟨p,v,by omega,h2,h3,h4⟩
 ·rintro ⟨p,v,h1,h2,h3,h4⟩;by_cases e:p<j
  ·split
   ·rename_i e2;subst e2;exact .inl ⟨p,v,e,h2,h3,h4⟩
   ·exact ⟨p,v,e,h2,h3,h4⟩
  ·have:p=j:=(by omega);subst this;rw [hu] at h2;cases h2;rw [if_pos h3.symm];exact .inr (hb.2 h4)
theorem F9.fresh {w w':World} {bb gr cr:Nat} {B:SB} {S S':ST} {rs:List BF} {x0 x1 x3:Value} {T:List Nat} (h:F9 w bb B S gr cr rs x0 x1 x3) (k:AA T w w') (hT:∀ j∈T,j∈B.own∨w.heap.size≤j) (hE:DB w' B S'):F9 w' bb B S' gr cr rs x0 x1 x3:=by
 have ne:∀ {j},j∉B.own→j<w.heap.size→j∉T:=fun h1 h2 hm=>(hT _ hm).elim h1 (fun q=>by omega);obtain ⟨cs,h1,h2⟩:=h.rel;exact ⟨h.cells.keeps k (ne h.bbB h.cells.lt),hE,⟨cs,h1.keeps k (ne h.grB h1.lt),h2⟩,fun r hr=>(h.maps r hr).kept k (ne (h.rmB r hr) (h.maps r hr).lt),h.bbB,h.grB,h.rmB,h.bbgr,h.bbrm,h.grrm,h.nodup,h.few,h.cols⟩
theorem DR {B:SB} {gr:Nat} {rs:List BF} {j:Nat} (h:j∈B.own):j∈ftp B gr rs:=by simp [ftp,h]
def FndTo (B:SB) (rs:List BF) (w:World) (S:ST) (Xs:Nat→List Nat→Prop) (c:Int) (e:Ending) (w':World):Prop:=
 ∃ g cf fs S',e=.returned (.slice (some ⟨g,0,none⟩) rs.length cf)∧w.heap.size≤g∧B8 w' g fs∧DB w' B S'∧AA B.own w w'∧EK S S'∧S'.next≤S.next+c∧Fl S' rs fs Xs
theorem SM {w:World} {bb gr cr:Nat} {B:SB} {S:ST} {rs:List BF} {x0 x1 x3:Value} (h:F9 w bb B S gr cr rs x0 x1 x3) {Fs:Nat→List Nat→Prop} {rks:Nat→List Nat→Option Nat} (ha:En S rs Fs rks) {gu uc:Nat} {ua:Option Addr} {us:List GV} (hua:0<us.length→ua=some ⟨gu,0,none⟩) (hu:FS w (ftp B gr rs) gu us) (hok:∀ u∈us,Ny rs u.c) {HS:Nat→List (List Nat→Prop)} (hH:Jm S us HS) (h52:us.length≤52) (hl:S.next+1760000000<GN) :
  Calls prog 217 #[.pointer (some ⟨bb,0,none⟩),.slice ua us.length uc] w (FndTo B rs w S (Jl (It us HS us.length) rks rs.length) 1760000000):=by
 have h6:=h.few;have kA:=AA.alloc [] w (.cells #[.int .i64 0] 3);have hA:=AK.new w #[.int .i64 0] 3;have zA:=AX w (.cells #[.int .i64 0] 3);have hbA:=h.keeps0 kA;have c2:=hbA.cells.cell 2;simp at c2;have hA0:(w.alloc (.cells #[.int .i64 0] 3)).cell? ⟨w.heap.size,0,none⟩=some (.int .i64 0):=by rw [hA.cell];rfl
 have hrep:=AD (L4 (cx:=1) (n:=rs.length) hA0 (by omega) h6);have Hl:=AD hl;clear hl hA0;generalize hWA:w.alloc (.cells #[.int .i64 0] 3)=WA at *;go_in
 go_wp2_with fail
 refine hrep.out.mono ?_;rintro e W1 ⟨g,cf,rfl,hg,hrow,k1⟩;have hg':w.heap.size≤g:=by omega
 have k01:=kA.trans k1;have Hk01:=AD k01;have hE1:=h.eng.keeps0 k01
 have hz0:Fl S rs (List.replicate rs.length 0) (It us HS 0):=⟨by simp,fun i r f h1 h2=>by
  rw [BC] at h2;split at h2
  ·cases h2;exact ⟨Es S,fun σ=>⟨fun q=>absurd q (by simp [CI]),fun ⟨p,u,hp,_⟩=>absurd hp (by omega)⟩⟩
  ·cases h2⟩
 clear hWA c2 hbA hrep hA zA kA k1 k01;go_wp2_with fail
 go_loopw [17] (fun y wr=>∃ (j:Nat) (fs:List Int) (S1:ST),y=.int .i64 j∧j≤us.length∧DB wr B S1∧B8 wr g fs∧AA (g :: B.own) w wr∧EK S S1∧S1.next≤S.next+33800000 * j∧Fl S1 rs fs (It us HS j)) (fun y _=>((us.length:Int) - intOf y).toNat)
 case atStart=>exact ⟨0,_,S,rfl,by omega,hE1,hrow,Hk01.out.mono (by simp),EK.refl S,by omega,hz0⟩
 case round=>
  obtain ⟨j,fs,S1,rfl,hj,hE,hr,hk,hx,hn,hf⟩:=hrel;have Hn:=AD hn;clear hn hrow hE1 hz0;have hkT:∀ j∈g :: B.own,j∈B.own∨w.heap.size≤j:=fun j hj=>by
   rcases AG.1 hj with rfl | hj
   ·exact .inr hg'
   ·exact .inl hj
  have hbr:=h.fresh hk hkT hE;have hgB:g∉B.own:=h.eng.sat.fresh hg';have hgb:g≠bb:=by have:=h.cells.lt;omega
  by_cases hjl:j<us.length
  ·have hjI:(j:Int)<us.length:=(by omega);obtain ⟨u,huj⟩:∃ u,us[j]?=some u:=⟨_,AB hjl⟩;have hum:=AE huj;have hur:=hu.keeps hk (fun j hj=>(hkT j hj).imp DR id);obtain ⟨cs,hc,hcs⟩:=hur.cells (by omega);have hc4:=hcs j u huj;have q0:wr.cell? ⟨gu,j * 4,none⟩=some (.int .i64 (u.c.head.rel:Int)):=by rw [hc.cell];exact hc4.c0
   have q1:wr.cell? ⟨gu,j * 4+1,none⟩=some (.slice (some ⟨u.gt,0,none⟩) u.c.head.terms.length u.tc):=by rw [hc.cell];exact hc4.c1
   have q2:wr.cell? ⟨gu,j * 4+2,none⟩=some (.slice u.la u.c.lits.length u.lc):=by rw [hc.cell];exact hc4.c2
   have q3:wr.cell? ⟨gu,j * 4+3,none⟩=some (.slice (some ⟨u.gh,0,none⟩) u.hs.length u.ch):=by rw [hc.cell];exact hc4.c3
   have hclu:=hur.clu u hum;obtain ⟨hhr,hhX,hhl⟩:=hur.hld u hum;have hcok:=hok u hum;obtain ⟨r,hr1,hr2,_⟩:=hcok.head.rel;have hgtX:u.gt∉g :: B.own:=By (by have:=(hu.clu u hum).head.1;omega) (fun q=>hclu.headX (AC.2 (.inr (DR q))));have hghX:u.gh∉g :: B.own:=By (by have:=(hu.hld u hum).1.lt;omega) (fun q=>hhX (DR q));have kC:=AA.alloc [] wr (.cells #[.int .i64 (u.c.head.rel:Int),.slice (some ⟨u.gt,0,none⟩) u.c.head.terms.length u.tc,.slice u.la u.c.lits.length u.lc,.slice (some ⟨u.gh,0,none⟩) u.hs.length u.ch] 295);have hC:=AK.new wr #[.int .i64 (u.c.head.rel:Int),.slice (some ⟨u.gt,0,none⟩) u.c.head.terms.length u.tc,.slice u.la u.c.lits.length u.lc,.slice (some ⟨u.gh,0,none⟩) u.hs.length u.ch] 295;have hfd:=AD (O7 (cf:=cf) (tc:=u.tc) (la:=u.la) (ln:=u.c.lits.length) (lc:=u.lc) (ch:=u.ch) (hbr.keeps0 kC) (hr.keepsE kC) hgB hgb hf (hclu.head.keeps kC) hgtX hcok.head.tms hr1 hr2 (hhr.keepsE kC) hghX ((hH j u huj).ext hx h.eng.wf hE.wf) (by rw [hhl];exact hcok.few) (f:=1) (Φ:=fun _=>True) ⟨IR S1,fun σ=>by simp [Dq]⟩ (by have:=Hl.out;have:=Hn.out;omega));simp only [ruV,hf.1] at hfd;have Hst:=AD (QE (HS:=HS) huj);have hua':=hua (by omega);clear hcs hc4 hc hclu hhr hhX hhl hcok hr1 hr2 hgtX hghX hur;generalize hWC:wr.alloc (.cells #[.int .i64 (u.c.head.rel:Int),.slice (some ⟨u.gt,0,none⟩) u.c.head.terms.length u.tc,.slice u.la u.c.lits.length u.lc,.slice (some ⟨u.gh,0,none⟩) u.hs.length u.ch] 295)=WC at *;have d0:=hC.cell 0;have d1:=hC.cell 1;have d2:=hC.cell 2;have d3:=hC.cell 3;simp at d0 d1 d2 d3;subst hua';go_wp2_with fail
   refine hfd.out.mono ?_;rintro e W5 ⟨rfl,fs',S5,hE5,hr5,k5,x5,n5,hf5⟩;have Hn5:=AD n5;clear n5 hfd q0 q1 q2 q3 d0 d1 d2 d3 hWC;go_wp2_with fail
   go_roundw
   ·exact ⟨j+1,fs',S5,by simp,by omega,hE5,hr5,(hk.trans (kC.mono (by simp))).trans k5,hx.trans x5,by have:=Hn.out;have:=Hn5.out;push_cast;omega,hf5.iff Hst.out⟩
   ·simp only [intOf];omega
  ·have hjI:¬ (j:Int)<us.length:=(by omega);have e:j=us.length:=(by omega);subst e
   have hwo:=AD (Kq (cf:=cf) hbr (ha.ext hx h.eng.wf hE.wf) hr (fun q=>by
    simp only [ftp,AG,AC,AM] at q;rcases q with q | ⟨x,hx,q⟩ | q
    ·obtain ⟨cs,hc,_⟩:=h.rel;have:=hc.lt;omega
    ·have:=(h.maps x hx).lt;omega
    ·exact hgB q) hgb hf (by have:=Hl.out;have:=Hn.out;omega))
   rw [hf.1] at hwo;go_wp2_with fail
   refine hwo.out.mono ?_;rintro e W5 ⟨rfl,fs',S5,hE5,hr5,k5,x5,n5,hf5⟩;go_wp2_with fail
   go_ret
   exact ⟨g,cf,fs',S5,rfl,hg',hr5,hE5,(hk.trans k5).drop hg',hx.trans x5,by have:=Hn.out;omega,hf5⟩
structure KlC (cs:Array Value) (o:Nat) (k:CluX):Prop where
 c0:cs[o]?=some (.int .i64 (k.c.head.rel:Int))
 c1:cs[o+1]?=some (.slice (some ⟨k.gt,0,none⟩) k.c.head.terms.length k.tc)
 c2:cs[o+2]?=some (.slice k.la k.c.lits.length k.lc)
structure KU (w:World) (X:List Nat) (ka:Option Addr) (ks:List CluX):Prop where
 cells:0<ks.length→∃ gk cs,ka=some ⟨gk,0,none⟩∧gk∉X∧AK w gk cs∧∀ (i:Nat) (k:CluX),ks[i]?=some k→KlC cs (i * 3) k
 clu:∀ k∈ks,Ix w X k
theorem KU.keeps {w w':World} {X T:List Nat} {ka:Option Addr} {ks:List CluX} (h:KU w X ka ks) (k:AA T w w') (hT:∀ j∈T,j∈X∨w.heap.size≤j:=by simp):KU w' X ka ks:=by
 refine ⟨fun h0=>?_,fun u hu=>(h.clu u hu).keeps k hT⟩;obtain ⟨gk,cs,h1,h2,h3,h4⟩:=h.cells h0;exact ⟨gk,cs,h1,h2,h3.keeps k (fun hm=>(hT _ hm).elim h2 (fun q=>by have:=h3.lt;omega)),h4⟩
def FY (rks:Nat→List Nat→Option Nat) (l:BW×Bool) (ν:List Nat):Prop:=if l.2 then ¬ (rks l.1.rel (l.1.terms.map (Ia ν))).isSome=true else (rks l.1.rel (l.1.terms.map (Ia ν))).isSome=true
def FI (rs:List BF) (lay:Nat) (k:CluX):Bool:=decide (Fw rs k.c.head.rel=lay)
def nK (u:GV):List Value:=[.int .i64 (u.c.head.rel:Int),.slice (some ⟨u.gt,0,none⟩) u.c.head.terms.length u.tc,.slice u.la u.c.lits.length u.lc,.slice (some ⟨u.gh,0,none⟩) u.hs.length u.ch]
def Rc (us:List GV):List Value:=us.flatMap nK
theorem Ye (us:List GV) (u:GV):Rc (us++[u])=Rc us++nK u:=by simp [Rc]
theorem gT {us:List GV} {i:Nat} {u:GV} (h:us[i]?=some u) {q:Nat} (hq:q<4):(Rc us)[i * 4+q]?=(nK u)[q]?:=by
 induction us generalizing i with
 | nil=>simp at h
 | cons y us ih=>
  have e:Rc (y :: us)=nK y++Rc us:=by simp [Rc]
  have hl:(nK y).length=4:=rfl;cases i with
  | zero=>simp at h;subst h;rw [e,Az (by omega)];congr 1;omega
  | succ i=>rw [e,Av (by omega),hl,show (i+1) * 4+q - 4=i * 4+q by omega];exact ih (by simpa using h)
theorem iT:(prog.info? 295).map (fun i=>(i.zero,i.size,i.bytes))=some (some (.agg #[.int .i64 0,.slice none 0 0,.slice none 0 0,.slice none 0 0]),4,80):=by kernel_rfl
theorem Uk {W:World} {a b c d:Value} {t:TypeId}:∀ (j:Nat) (x:Value),[a,b,c,d][j]?=some x→(W.alloc (.cells #[a,b,c,d] t)).cell? ((⟨W.heap.size,0,none⟩:Addr).add j)=some x:=by
 intro j x hx;rw [Addr.add_lit,Ag,(AK.new W #[a,b,c,d] t).cell];match j with
 | 0=>simpa using hx
 | 1=>simpa using hx
 | 2=>simpa using hx
 | 3=>simpa using hx
 | j+4=>simp at hx
theorem JU.snoc {S:ST} {hs:List Int} {Hs:List (List Nat→Prop)} (h:JU S hs Hs) {y:Int} {H:List Nat→Prop} (hy:GW S y 4 H):JU S (hs++[y]) (Hs++[H]):=by
 refine ⟨by simp [h.1],fun i a b h1 h2=>?_⟩;rcases Nat.lt_trichotomy i hs.length with hi | hi | hi
 ·rw [Az hi] at h1;rw [Az (by rw [←h.1];exact hi)] at h2;exact h.2 i a b h1 h2
 ·subst hi;rw [Av (AQ _)] at h1;rw [h.1,Av (AQ _)] at h2;simp at h1 h2;subst h1 h2;exact hy
 ·rw [Af (by simp;omega)] at h1;cases h1
structure LF (w:World) (z:Nat) (S:ST) (rks:Nat→List Nat→Option Nat) (v:Value) (us:List GV):Prop where
 row:w.ownsRow z 295 4 v us.length (Rc us)
 hld:∀ u∈us,B8 w u.gh u.hs∧z≤u.gh∧u.hs.length=u.c.lits.length∧JU S u.hs (u.c.lits.map (FY rks))∧∀ q,v.ownBlock=some q→q≠u.gh
 nodup:(us.map (·.gh)).Nodup
theorem LF.keeps {w w':World} {z:Nat} {S S':ST} {rks:Nat→List Nat→Option Nat} {v:Value} {us:List GV} {T:List Nat} (h:LF w z S rks v us) (k:AA T w w') (hT:∀ j∈T,j<z∨w.heap.size≤j) (x:EK S S') (hw:WF S) (hw':WF S'):LF w' z S' rks v us:=by
 have ne:∀ {j},z≤j→j<w.heap.size→j∉T:=fun h1 h2 hm=>by have:=hT _ hm;omega
 exact ⟨AH h.row k (fun i hi=>ne (As h.row i hi).1 (World.ownsRow.lt h.row i hi).2),fun u hu=>by
  obtain ⟨h1,h2,h3,h4,h5⟩:=h.hld u hu
  exact ⟨h1.keepsE k (ne h2 h1.lt),h2,h3,h4.ext x hw hw',h5⟩,h.nodup⟩
def BegTo (B:SB) (rs:List BF) (ks:List CluX) (lay:Nat) (rks:Nat→List Nat→Option Nat) (w:World) (S:ST) (e:Ending) (w':World):Prop:=
 ∃ v us S',e=.returned v∧LF w' w.heap.size S' rks v us∧us.map (·.toCluX)=ks.filter (FI rs lay)∧DB w' B S'∧AA B.own w w'∧EK S S'∧S'.next≤S.next+3500000000
end
end Go.Proofs.YtgjomknpjigkhaaGreatDoor
