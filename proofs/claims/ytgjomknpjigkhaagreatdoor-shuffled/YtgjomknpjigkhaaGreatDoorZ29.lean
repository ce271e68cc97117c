import Derived.Test.YtgjomknpjigkhaaGreatDoorZ28
import Derived.Maps.OwnIn
namespace Go.Proofs.YtgjomknpjigkhaaGreatDoor
open Go.Proofs.Tryz
set_option maxRecDepth 100000
set_option maxHeartbeats 4000000
section
open Go.RowKit Go.Shelf
attribute [local go_sem] Oper.semAt_some
def Pe (cs:Array Value) (n:Nat) (f:Nat→Nat):Prop:=cs.size=n∧∀ p,p<n→cs[p]?=some (.int .i64 (f p:Int))
theorem Pe.set {cs:Array Value} {n:Nat} {f:Nat→Nat} (h:Pe cs n f) {k:Nat} (hk:k<n) (x:Nat):Pe (cs.setIfInBounds k (.int .i64 (x:Int))) n (fun p=>if p=k then x else f p):=by
 refine ⟨by rw [Array.size_setIfInBounds];exact h.1,fun p hp=>?_⟩;rw [AZ];by_cases e:k=p
 ·subst e;rw [if_pos rfl,if_pos (by rw [h.1];exact hk)];simp
 ·have e2:¬ p=k:=fun q=>e q.symm;rw [if_neg e,h.2 p hp];simp [e2]
theorem Pe.ext {cs:Array Value} {n:Nat} {f f':Nat→Nat} (h:Pe cs n f) (he:∀ p,p<n→f p=f' p):Pe cs n f':=⟨h.1,fun p hp=>by rw [h.2 p hp,he p hp]⟩
def Gy (σ:Int→Bool) (k:Nat):Nat→Nat
 | 0=>0
 | i+1=>2 * Gy σ k i+(σ (3 * k+i:Nat)).toNat
theorem V4 (σ:Int→Bool) (k:Nat):Gy σ k 3=F7 σ k:=by simp only [Gy,F7];simp;omega
theorem Tr (σ:Int→Bool) (k:Nat):∀ i,Gy σ k i<2 ^ i
 | 0=>by simp [Gy]
 | i+1=>by
  have:=Tr σ k i;have hb:(σ (3 * k+i:Nat)).toNat<2:=by cases σ (3 * k+i:Nat) <;> decide
  simp only [Gy];rw [CX];omega
theorem mC {v b:Nat} (hv:v<4) (hb:b<2):bits BinOp.or IntKind.i64 (IntKind.i64.wrap ((v:Int) * 2)) (b:Int)=((2 * v+b:Nat):Int):=by
 have e1:IntKind.i64.wrap ((v:Int) * 2)=((2 * v:Nat):Int):=by rw [IntKind.wrap_i64];omega
 rw [e1];have e2:=(bits_nat .i64 62 (by decide) (fun n a b=>by rw [IntKind.wrap_i64];omega) (2 * v) b (by omega) (by omega)).2;rw [e2];have h1:v=0∨v=1∨v=2∨v=3:=by omega
 have h2:b=0∨b=1:=by omega
 rcases h1 with rfl | rfl | rfl | rfl <;> rcases h2 with rfl | rfl <;> rfl
theorem eW {y m:Nat} (hy:y<4096):bits BinOp.and IntKind.i64 ((y:Int) / 2 ^ m) 1=(((IC (y:Int)) (m:Nat)).toNat:Int):=by
 have h0:(y:Int) / 2 ^ m=((y / 2 ^ m:Nat):Int):=by push_cast;rfl
 have h1:y / 2 ^ m≤y:=Nat.div_le_self _ _;have h2:(IC (y:Int)) (m:Nat)=decide (y / 2 ^ m % 2=1):=by
  unfold IC;rw [PQ,Nat.testBit_eq_decide_div_mod_eq]
 rw [h0,h2];generalize y / 2 ^ m=q at *;rw [Sm _ (by omega) (by omega)];by_cases hq:q % 2=1
 ·simp [hq];omega
 ·have:q % 2=0:=by omega
  simp [this];omega
def F6 (w:World) (g:Nat) (cs:Array Value):Prop:=w.heap[g]?=some (.cells cs 3 (0,0))
theorem F6.at {w:World} {g:Nat} {cs:Array Value} (h:F6 w g cs):AK w g cs:=⟨3,h⟩
theorem F6.keeps {w w':World} {g:Nat} {cs:Array Value} {T:List Nat} (h:F6 w g cs) (k:AA T w w') (hg:g∉T:=by simp):F6 w' g cs:=(k.block g (AO.1 h).1 hg).trans h
theorem F6.set {w:World} {g:Nat} {cs:Array Value} (h:F6 w g cs) (k:Nat) (v:Value):F6 (w.setCell ⟨g,k,none⟩ v) g (cs.setIfInBounds k v):=by
 have hg:=(AO.1 h).1;unfold F6 World.setCell at *;simp [Array.getElem?_modify,h]
theorem TH {w:World} (y n:Nat) (hy:y<4096) (h1:1≤n) (h3:n≤3) :
  Calls prog 81 #[.int .i64 (y:Int),.int .i64 (n:Int)] w fun e w'=>e=.returned (.slice (some ⟨w.heap.size,0,none⟩) n n)∧(∃ cs,F6 w' w.heap.size cs∧Pe cs n (F7 (IC (y:Int))))∧AA [] w w':=by
 have hmk:=Kb w n (by omega);have kM:=AA.alloc [] w (.cells (madeCells #[.int .i64 0] n) 3);have hM:F6 (w.alloc (.cells (madeCells #[.int .i64 0] n) 3)) w.heap.size (madeCells #[.int .i64 0] n):=World.alloc_heap_new w _;have hT0:Pe (madeCells #[.int .i64 0] n) n (fun _=>0):=⟨by rw [UD];simp,fun p hp=>by rw [LW n p hp];rfl⟩;go_in
 go_wp2_with fail
 go_loopw [12] (fun x wr=>∃ (k:Nat) (cs:Array Value),x=.int .i64 k∧k≤n∧F6 wr w.heap.size cs∧Pe cs n (fun p=>if p<k then F7 (IC (y:Int)) p else 0)∧AA [] w wr) (fun x _=>((n:Int) - intOf x).toNat)
 case atStart=>exact ⟨0,_,rfl,by omega,hM,hT0.ext (fun p _=>by simp),kM⟩
 case round=>
  obtain ⟨k,cs,rfl,hk,hc,hT,hkw⟩:=hrel;by_cases hkn:k<n
  ·have hkI:(k:Int)<n:=(by omega);rename World=>wo;go_wp2_with fail
   go_loopw [15] (fun x wr=>∃ (i:Nat) (cs:Array Value),x=.int .i64 i∧i≤3∧F6 wr w.heap.size cs∧Pe cs n (fun p=>if p<k then F7 (IC (y:Int)) p else if p=k then Gy (IC (y:Int)) k i else 0)∧AA [] w wr) (fun x _=>((3:Int) - intOf x).toNat)
   case atStart=>exact ⟨0,cs,rfl,by omega,hc,hT.ext (fun p _=>by simp [Gy]),hkw⟩
   case round=>
    obtain ⟨i,cs',rfl,hi,hc',hT',hkw'⟩:=hrel;by_cases hil:i<3
    ·have hiI:(i:Int)<3:=(by omega);have hvar:=AD (fun (W:World)=>Eb W k i (by omega) (by omega));have hpl:=Tr (IC (y:Int)) k i;have hp2:2 ^ i≤2 ^ 2:=C6 (by decide) (by omega);have hor:=mC (v:=Gy (IC (y:Int)) k i) (b:=((IC (y:Int)) (3 * k+i:Nat)).toNat) (by omega) (by cases (IC (y:Int)) (3 * k+i:Nat) <;> decide);have hand:=eW (y:=y) (m:=3 * k+i) hy;have hset:=hT'.set hkn (2 * Gy (IC (y:Int)) k i+((IC (y:Int)) (3 * k+i:Nat)).toNat);have hcS:=hc'.set k (.int .i64 ((2 * Gy (IC (y:Int)) k i+((IC (y:Int)) (3 * k+i:Nat)).toNat:Nat):Int));have q0:wr.cell? ⟨w.heap.size,k,none⟩=some (.int .i64 (Gy (IC (y:Int)) k i:Int)):=by rw [hc'.at.cell,hT'.2 k hkn];simp
     have f0:=hc'.at.frozen k;have hnext:Gy (IC (y:Int)) k (i+1)=2 * Gy (IC (y:Int)) k i+((IC (y:Int)) (3 * k+i:Nat)).toNat:=rfl;have Hnext:=AD hnext;have Hset:=AD hset;have HcS:=AD hcS;generalize hv:Gy (IC (y:Int)) k i=v at *;generalize hb:((IC (y:Int)) (3 * k+i:Nat)).toNat=b at *;generalize hz:2 * v+b=z at *;clear hset hcS hnext hz hb hv hT' hpl hp2;have HF1:Hid (wr.drew.cell? ⟨w.heap.size,k,none⟩=some (.int .i64 (v:Int))):=AD q0;have Hkw:=AD hkw';have hand2:bits BinOp.and IntKind.i64 ((y:Int) / 2 ^ (3 * (k:Int)+(i:Int)).toNat) 1=(b:Int):=by rw [show (3 * (k:Int)+(i:Int)).toNat=3 * k+i by omega];exact hand
     clear hand;go_upto_region 8 with fail
     refine HO 15 (fun w'=>w'.cell? ⟨w.heap.size,k,none⟩=some (.int .i64 (v:Int))) (by kernel_rfl) ?_;refine A3 0 (v:=?_) rfl (by kernel_rfl) (by kernel_rfl) (by kernel_rfl) (by kernel_rfl) (fun _ _ _ h=>h) (BX ⟨by rfl,?_⟩) HF1.out ?_;rotate_left
     ·(intro w' hSw;have s0:=hSw;go_simp;try with_reducible rfl)
     simp only [Act.put,AI,AS,AR];refine A3 1 (v:=?_) rfl (by kernel_rfl) (by kernel_rfl) (by kernel_rfl) (by kernel_rfl) (fun _ _ _ h=>h) (BX ⟨by rfl,?_⟩) HF1.out ?_;rotate_left
     ·(intro w' hSw;have s0:=hSw;go_simp;try with_reducible rfl)
     simp only [Act.put,AI,AS,AR];refine A3 2 (v:=?_) rfl (by kernel_rfl) (by kernel_rfl) (by kernel_rfl) (by kernel_rfl) (fun _ _ _ h=>h) (BX ⟨by rfl,?_⟩) HF1.out ?_;rotate_left
     ·(intro w' hSw;have s0:=hSw;go_simp;try with_reducible rfl)
     simp only [Act.put,AI,AS,AR];refine A3 3 (v:=?_) rfl (by kernel_rfl) (by kernel_rfl) (by kernel_rfl) (by kernel_rfl) (fun _ _ _ h=>h) (BX ⟨by rfl,?_⟩) HF1.out ?_;rotate_left
     ·(intro w' hSw;have s0:=hSw;go_simp;try with_reducible rfl)
     simp only [Act.put,AI,AS,AR];refine A3 4 (v:=?_) rfl (by kernel_rfl) (by kernel_rfl) (by kernel_rfl) (by kernel_rfl) (fun _ _ _ h=>h) (BX ⟨by rfl,?_⟩) HF1.out ?_;rotate_left
     ·(intro w' hSw;have s0:=hSw;go_simp;try with_reducible rfl)
     simp only [Act.put,AI,AS,AR];refine A3 5 (v:=?_) rfl (by kernel_rfl) (by kernel_rfl) (by kernel_rfl) (by kernel_rfl) (fun _ _ _ h=>h) (BX ⟨by rfl,?_⟩) HF1.out ?_;rotate_left
     ·(intro w' hSw;have s0:=hSw;go_simp;try with_reducible rfl)
     simp only [Act.put,AI,AS,AR];refine A3 6 (v:=?_) rfl (by kernel_rfl) (by kernel_rfl) (by kernel_rfl) (by kernel_rfl) (fun _ _ _ h=>h) (BX ⟨by rfl,?_⟩) HF1.out ?_;rotate_left
     ·(intro w' hSw;have s0:=hSw;go_simp;try with_reducible rfl)
     simp only [Act.put,AI,AS,AR];refine A3 7 (v:=?_) rfl (by kernel_rfl) (by kernel_rfl) (by kernel_rfl) (by kernel_rfl) (fun _ _ _ h=>h) (BX ⟨by rfl,?_⟩) HF1.out ?_;rotate_left
     ·(intro w' hSw;have s0:=hSw;go_simp;try with_reducible rfl)
     simp only [Act.put,AI,AS,AR];refine A3 8 (v:=?_) rfl (by kernel_rfl) (by kernel_rfl) (by kernel_rfl) (by kernel_rfl) (fun _ _ _ h=>h) (BX ⟨by rfl,?_⟩) HF1.out ?_;rotate_left
     ·(intro w' hSw;have s0:=hSw;go_simp;try with_reducible rfl)
     simp only [Act.put,AI,AS,AR];refine A3 9 (v:=?_) rfl (by kernel_rfl) (by kernel_rfl) (by kernel_rfl) (by kernel_rfl) (fun _ _ _ h=>h) (BX ⟨by rfl,?_⟩) HF1.out ?_;rotate_left
     ·(intro w' hSw;have s0:=hSw;go_simp;try with_reducible rfl)
     simp only [Act.put,AI,AS,AR];refine Bs 10 (by kernel_rfl) rfl ?_;intro K hK;have HK:=AD hK;clear hK;refine A2 rfl 144 _ _ rfl _ func144 (by kernel_rfl) (by kernel_rfl) [.int .i64 (k:Int),.int .i64 (i:Int)] rfl ?_;refine (hvar.out _).mono ?_;rintro e W5 ⟨rfl,rfl⟩;refine HK.out _ _ (fun _=>HF1.out) ?_;clear HK;try simp only [Act.put,AI,AS,AR]
     refine Bs 11 (by kernel_rfl) rfl ?_;intro K hK;have HK:=AD hK;clear hK;rw [if_pos (by rfl)];go_simp
     refine HK.out _ _ (fun _=>HF1.out) ?_;clear HK;try simp only [Act.put,AI,AS,AR]
     refine Bs 12 (by kernel_rfl) rfl ?_;intro K hK;have HK:=AD hK;clear hK;rw [if_pos (by rfl)];go_simp
     refine HK.out _ _ (fun _=>HF1.out) ?_;clear HK;try simp only [Act.put,AI,AS,AR]
     refine Bs 13 (by kernel_rfl) rfl ?_;intro K hK;have HK:=AD hK;clear hK;rw [if_pos (by rfl)];go_simp
     refine HK.out _ _ (fun _=>HF1.out) ?_;clear HK;try simp only [Act.put,AI,AS,AR]
     refine Bs 14 (by kernel_rfl) rfl ?_;intro K hK;have HK:=AD hK;clear hK;rw [if_pos (by rfl)];go_simp
     refine HK.out _ _ (fun _=>HF1.out) ?_;clear HK;try simp only [Act.put,AI,AS,AR]
     refine Bs 15 (by kernel_rfl) rfl ?_;intro K hK;have HK:=AD hK;clear hK;rw [if_pos (by rfl)];go_simp
     refine HK.out _ _ (fun h=>absurd rfl h) ?_;clear HK;refine HQ (by kernel_rfl) ?_;go_wp2_with fail
     go_roundw
     ·exact ⟨i+1,_,by simp,by omega,HcS.out.keeps (AA.drew [] _),Hset.out.ext (fun p _=>by
       by_cases e:p=k
       ·subst e;rw [if_pos rfl,if_neg (Nat.lt_irrefl _),if_pos rfl,Hnext.out]
       ·rw [if_neg e,if_neg e,if_neg e]),(Hkw.out.trans_new (AA.setCell _ _ _) (fun j hj=>.inr (by simp only [AF] at hj;omega))).trans (AA.drew [] _)⟩
     ·simp only [intOf];omega
    ·have hiI:¬ (i:Int)<3:=(by omega);have e:i=3:=(by omega);subst e;go_wp2_with fail
     go_roundw
     ·exact ⟨k+1,cs',by simp,by omega,hc',hT'.ext (fun p hp=>by
       by_cases e:p<k
       ·rw [if_pos e,if_pos (by omega)]
       ·rw [if_neg e];by_cases e2:p=k
        ·subst e2;rw [if_pos rfl,if_pos (by omega),V4]
        ·rw [if_neg e2,if_neg (by omega)]),hkw'⟩
     ·simp only [intOf];omega
  ·have hkI:¬ (k:Int)<n:=(by omega);have e:k=n:=(by omega);subst e;go_wp2_with fail
   go_ret
   exact ⟨rfl,⟨cs,hc,hT.ext (fun p hp=>by rw [if_pos hp])⟩,hkw⟩
def KQ (W:World) (g n:Nat) (l:List Nat):Prop:=∃ cs,F6 W g cs∧Pe cs n (fun p=>l.getD p 0)
theorem KQ.still {W W':World} {b g n:Nat} {l:List Nat} (h:KQ W g n l) (k:GU b W W'):KQ W' g n l:=by
 obtain ⟨cs,h1,h2⟩:=h;exact ⟨cs,(k.block g (AO.1 h1).1 (.inr ⟨_,_,_,h1⟩)).trans h1,h2⟩
theorem KQ.keeps {W W':World} {g n:Nat} {l T:List Nat} (h:KQ W g n l) (k:AA T W W') (hg:g∉T:=by simp):KQ W' g n l:=by
 obtain ⟨cs,h1,h2⟩:=h;exact ⟨cs,h1.keeps k hg,h2⟩
def eTu (n:Nat) (x:List Nat×Nat):Array Value:=#[.slice (some ⟨x.2,0,none⟩) n n]
def Md (n y:Nat):List Nat:=ED (IC (y:Int)) 0 n
def IM (S:ST) (f:Int) (n:Nat):List (List Nat):=(S.trues f (3 * n)).map (Md n)
theorem Zw {S:ST} {f:Int} {n y:Nat} (h3:n≤3) (h:y∈S.trues f (3 * n)):y<4096:=by
 unfold ST.trues at h;obtain ⟨z,hz,rfl⟩:=Iv (Ai.1 h).1;have:2 ^ (3 * n)≤2 ^ 9:=C6 (by decide) (by omega);simp;omega
def fW (w:World) (l pr y n cc:Nat) (sa:Option Addr) (j:Nat) (v:Value) (u:World):Prop:=match j with
 | 0=>v=.func (.yield l) #[] #[]
 | 1=>v=.int .i64 (y:Int)
 | 2=>v=.pointer (some ⟨pr,0,none⟩)
 | 3=>v=.slice sa n cc
 | 4=>v=.int .i64 (n:Int)
 | 5=>∃ g,v=.slice (some ⟨g,0,none⟩) n n∧w.heap.size≤g∧KQ u g n (Md n y)
 | _=>True
theorem VV {w:World} {l pr y n cc:Nat} {sa:Option Addr} (j:Nat) (v:Value) (u u':World) (h:fW w l pr y n cc sa j v u) (k:AA [] u u'):fW w l pr y n cc sa j v u':=by
 match j,h with
 | 0,h=>exact h
 | 1,h=>exact h
 | 2,h=>exact h
 | 3,h=>exact h
 | 4,h=>exact h
 | 5,h=>
  obtain ⟨g,h1,h2,h3⟩:=h;exact ⟨g,h1,h2,h3.keeps k⟩
 | _+6,_=>trivial
def fB (w:World) (l:Nat) (T:List Nat) (W':World) (J:List (List Nat×Nat)→World→Prop) (pre:List (List Nat×Nat)) (x:List Nat) (u:World):Prop:=∃ g,J (pre++[(x,g)]) u∧Lo w.heap.size 40 (l :: T) W' u
theorem ld158 {o:Oper} {a:Act} {u:World} {x:Operand} {b k:Nat} {v:Value} (hop:o.op=.load 158 x) (hx:a.eval x=.pointer (some ⟨b,k,none⟩)) (c:u.cell? ⟨b,k,none⟩=some v):(execOp a.eval o).run prog u=.ok (.value v) u:=by
 simp only [execOp,hop,hx];go_simp
theorem fa148 {o:Oper} {a:Act} {u:World} {x:Operand} {b:Nat} (hop:o.op=.fieldAddr 148 x 0) (hx:a.eval x=.pointer (some ⟨b,0,none⟩)):(execOp a.eval o).run prog u=.ok (.value (.pointer (some ⟨b,0,none⟩))) u:=by
 simp only [execOp,hop,hx];go_simp
theorem len40 {o:Oper} {ev:Operand→Value} {u:World} {x:Operand} {sa:Option Addr} {n cc:Nat} (hop:o.op=.call { callee:=.builtin .len,args:=#[x],argTypes:=#[40] }) (hx:ev x=.slice sa n cc):(execOp ev o).run prog u=.ok (.value (.int .i64 (n:Int))) u:=by
 simp only [execOp,hop];go_simp
theorem not4 {o:Oper} {a:Act} {u:World} {x:Operand} (hop:o.op=.unOp .not 4 x) (hx:a.eval x=.bool true):(execOp a.eval o).run prog u=.ok (.value (.bool false)) u:=by
 simp only [execOp,hop,hx];go_simp
theorem gN {o:Oper} {ev:Operand→Value} {u:World} {x z:Operand} {l:Nat} {v:Value} {fn:FuncId} {tm:Array Value} {asc bo:Code} (hop:o.op=.call { callee:=.value x,args:=#[z],argTypes:=#[40] }) (hx:ev x=.func (.yield l) #[] #[]) (hz:ev z=v) (h:(Instr.yield l #[v]).run prog u=.ok (.round l fn tm asc bo) u):(execOp ev o).run prog u=.ok (.round l fn tm asc bo) u:=by
 simp only [execOp,hop];go_simp
theorem Zv {w:World} {B:SB} {S:ST} (hE0:DB w B S) {pb pr bb n cc:Nat} {sa:Option Addr} {v1 v2 v4:Value} {f:Int} {R:List Nat→Prop} (hpb0:AK w pb #[.pointer (some ⟨bb,0,none⟩)]) (hpr0:AK w pr #[.slice sa n cc,v1,v2,.int .i64 f,v4]) (hbs0:KY w bb B) (hf:GW S f n R) (h1:1≤n) (h3:n≤3) (T:List Nat) (hT:∀ t∈T,t<w.heap.size∧t∉B.own∧t≠pb∧t≠pr∧t≠bb) :
  fJ 40 w.heap.size 78 #[.pointer (some ⟨pb,0,none⟩),.pointer (some ⟨pr,0,none⟩)] (eTu n) (fun pre x W=>(pre++[x]).map (·.1) <+: IM S f n∧w.heap.size≤x.2∧KQ W x.2 n x.1) (fun xs=>xs.map (·.1)=IM S f n) T w:=by
 intro n' l J W hl hlW hb hJ hY h0;have hE:=hE0.sat.of_heap (w':=W) (fun i hi=>hb.block i (hE0.sat.lt i hi));have hpb:=hpb0.of_heap (w':=W) (hb.block pb hpb0.lt);have hpr:=hpr0.of_heap (w':=W) (hb.block pr hpr0.lt);have hbs:W.cell? ⟨bb,4,none⟩=some (.pointer (some ⟨B.b,0,none⟩)):=by
  have e:=hb.block bb hbs0.lt;have:=hbs0.cell;simp only [World.cell?,e] at this ⊢;exact this
 have kY:=AA.alloc [] W (.cells #[.func (.yield l) #[] #[]] 158);have hYc:(W.alloc (.cells #[.func (.yield l) #[] #[]] 158)).heap[W.heap.size]?=some (.cells #[.func (.yield l) #[] #[]] 158 (0,0)):=World.alloc_heap_new W _;have zY:=AX W (.cells #[.func (.yield l) #[] #[]] 158);have hEY:=hE.keeps kY;have q0:=(hpb.keeps kY).cell 0;have q3:=(hpr.keeps kY).cell 3;have q00:=(hpr.keeps kY).cell 0;have q4:(W.alloc (.cells #[.func (.yield l) #[] #[]] 158)).cell? ⟨bb,4,none⟩=some (.pointer (some ⟨B.b,0,none⟩)):=by
  have hblt:bb<W.heap.size:=A4 hbs0.lt hb.size;rw [FF kY hblt (by simp)];exact hbs
 simp at q0 q3 q00;generalize hWY:W.alloc (.cells #[.func (.yield l) #[] #[]] 158)=WY at *;have hv:=AD (NJ WY.drew pr 0 n sa cc (by omega) q00);refine callsIn_of_wp_marks func78 rfl trivial ?_ rfl;simp only [ntmps78,Bw,AU,Ao,Nat.reduceAdd,Nat.reduceSub,B0,Bz,CW,Bo,BM,A8];refine wpIn_wide.2 ?_;have hk9:3 * n≤9:=by omega
 generalize hk3:3 * n=k at hv hk9;go_wp2_with fail
 refine Fc 7 (by kernel_rfl) (by kernel_rfl) ?_;simp only [CR,DW,CT,BV];repeat (first | go_big_quiet_step (fail) | (go_big_quiet_want;go_big_quiet_op;apply Exists.intro;refine Ak (hv.out) ?_;go_big_quiet_on))
 refine wpQuiet_nil ?_;go_wp2_with fail
 refine (M9 _ _ _ _).mono ?_;rintro e W2 ⟨rfl,rfl⟩;go_wp2_with fail
 have kp:=AA.alloc [] WY (.cells #[.pointer (some ⟨B.b,0,none⟩)] 135);have hp:=AK.new WY #[.pointer (some ⟨B.b,0,none⟩)] 135;have kq:=AA.alloc [] (WY.alloc (.cells #[.pointer (some ⟨B.b,0,none⟩)] 135)) (.cells #[.int .i64 f] 3);have hq:=AK.new (WY.alloc (.cells #[.pointer (some ⟨B.b,0,none⟩)] 135)) #[.int .i64 f] 3;have ku:=AA.alloc [] ((WY.alloc (.cells #[.pointer (some ⟨B.b,0,none⟩)] 135)).alloc (.cells #[.int .i64 f] 3)) (.cells #[.int .i64 (k:Int)] 3);have hu:=AK.new ((WY.alloc (.cells #[.pointer (some ⟨B.b,0,none⟩)] 135)).alloc (.cells #[.int .i64 f] 3)) #[.int .i64 (k:Int)] 3;simp only [World.size_alloc,zY] at hp hq hu;have kd:=AA.drew [] (((WY.alloc (.cells #[.pointer (some ⟨B.b,0,none⟩)] 135)).alloc (.cells #[.int .i64 f] 3)).alloc (.cells #[.int .i64 (k:Int)] 3));have k4:=((kp.trans kq).trans ku).trans kd;have hp4:=((hp.keeps kq).keeps ku).keeps kd;have hq4:=(hq.keeps ku).keeps kd;have hu4:=hu.keeps kd;have z4:((((WY.alloc (.cells #[.pointer (some ⟨B.b,0,none⟩)] 135)).alloc (.cells #[.int .i64 f] 3)).alloc (.cells #[.int .i64 (k:Int)] 3)).drew).heap.size=W.heap.size+1+1+1+1:=by simp [zY]
 clear kp kq ku kd hp hq hu;generalize (((WY.alloc (.cells #[.pointer (some ⟨B.b,0,none⟩)] 135)).alloc (.cells #[.int .i64 f] 3)).alloc (.cells #[.int .i64 (k:Int)] 3)).drew=W4 at *;have kW4:AA [] W W4:=kY.trans k4;have hS4:=hEY.keeps k4;have hHk:Hk k S f:=by rw [←hk3];exact hf.hk
 have hit:=TK 40 w.heap.size hS4 hE0.sat.lt hE0.wf hE0.idn hE0.ho hE0.n hE0.co (W.heap.size+1) (W.heap.size+1+1) (W.heap.size+1+1+1) f k hp4 hq4 hu4 hf.1 hHk hk9 (l :: T) (fun t ht=>by
  have hsz:=hb.size;rcases AG.1 ht with rfl | ht
  ·exact ⟨by omega,fun hm=>by have:=hE0.sat.lt _ hm;omega⟩
  ·exact ⟨by have:=(hT t ht).1;omega,(hT t ht).2.1⟩)
 have hY4:W4.heap[W.heap.size]?=some (.cells #[.func (.yield l) #[] #[]] 158 (0,0)):=(k4.block _ (by omega) (by simp)).trans hYc;have hpr4:=(hpr.keeps kY).keeps k4;have hJ4:J [] W4:=hJ _ _ _ h0 (kW4.still (by simp));refine (wpIn_wide (n:=0)).1 ?_
 refine Oe (gf:=153) (lb:=#[.pointer (some ⟨W.heap.size+1,0,none⟩),.pointer (some ⟨W.heap.size+1+1,0,none⟩),.pointer (some ⟨W.heap.size+1+1+1,0,none⟩)]) rfl (enters_of func153 (by kernel_rfl) rfl) (T:=l :: T) (fun t ht=>by
   have hsz:=hb.size;rcases AG.1 ht with rfl | ht
   ·omega
   ·have:=(hT t ht).1;omega) hit (fun _ _ _ _ h _=>h) (fun _=>rfl)
  (fun ys W'=>∃ pre:List (List Nat×Nat),pre.map (·.1)=ys.map (Md n)∧J pre W'∧W'.heap[W.heap.size]?=some (.cells #[.func (.yield l) #[] #[]] 158 (0,0))∧AK W' pr #[.slice sa n cc,v1,v2,.int .i64 f,v4])
  (fun ys W1 W2 h hs=>by
   obtain ⟨pre,a,b,c,d⟩:=h
   exact ⟨pre,a,hJ _ _ _ b (hs.mono (by omega)),(hs.block _ (AO.1 c).1 (.inr ⟨_,_,_,c⟩)).trans c,by
    obtain ⟨t,ht⟩:=d
    exact ⟨t,(hs.block _ (AO.1 ht).1 (.inr ⟨_,_,_,ht⟩)).trans ht⟩⟩) ⟨[],rfl,hJ4,hY4,hpr4⟩
  (fun y a' _=>a' = { tmps:=#[.func (.yield l) #[] #[],.pointer (some ⟨pb,0,none⟩),.pointer (some ⟨pr,0,none⟩),.pointer (some ⟨W.heap.size,0,none⟩),.int .i64 (y:Nat),.pointer (some ⟨bb,0,none⟩),.pointer (some ⟨bb,0,none⟩),.pointer (some ⟨bb,4,none⟩),.pointer (some ⟨B.b,0,none⟩),.pointer (some ⟨pr,3,none⟩),.int .i64 f,.int .i64 (k:Int),.func (.func 153) #[] #[.pointer (some ⟨W.heap.size+1,0,none⟩),.pointer (some ⟨W.heap.size+1+1,0,none⟩),.pointer (some ⟨W.heap.size+1+1+1,0,none⟩)],.int .i64 (y:Nat),undef,undef,undef,undef,undef,undef,undef,undef],defers:=[] })
  (fun _ _ _ _ h _=>h) ?assign ?body ?done
 case assign=>
  intro l1 ys y W' K hlt hi hc hK;gi_wp2
  exact hK _ _ (by simp [eA]) (AA.refl _ _)
 case body=>
  rintro l1 ys y a' W' hlt ⟨pre,hpre,hJp,hYc',hpr'⟩ hc rfl;have hy:y<4096:=Zw h3 (f:=f) (S:=S) (by rw [hk3];exact hc.subset (by simp));have htu:=AD (fun (U:World)=>TH (w:=U) y n hy h1 h3);have e0:W'.cell? ⟨W.heap.size,0,none⟩=some (.func (.yield l) #[] #[]):=(show AK W' W.heap.size #[.func (.yield l) #[] #[]] from ⟨_,hYc'⟩).cell 0;have e1:=hpr'.cell 0;simp at e1;have hfol:prog.follows .mixedOrders=true:=by kernel_rfl
  have hpx:∀ g:Nat,((pre++[(Md n y,g)]).map (·.1)) <+: IM S f n:=fun g=>by
   rw [Am,hpre];have:=hc.map (Md n);rw [Am] at this;unfold IM;rw [hk3];exact this
  have hyl:=AD (fun (U:World) (g:Nat) (hg:w.heap.size≤g) (k:AA [] W' U) (hr:KQ U g n (Md n y))=>I1 (m':=0 - 1) (hY pre (Md n y,g) U (hJ _ _ _ hJp (k.still (by simp))) ⟨hpx g,hg,hr⟩));have hwW:w.heap.size≤W'.heap.size:=by have:=hb.size;omega
  gi_wp2_with fail
  refine Ic (S:=fun listed a u=>fL 14 6 (fW w l pr y n cc sa) { tmps:=#[.func (.yield l) #[] #[],.pointer (some ⟨pb,0,none⟩),.pointer (some ⟨pr,0,none⟩),.pointer (some ⟨W.heap.size,0,none⟩),.int .i64 (y:Nat),.pointer (some ⟨bb,0,none⟩),.pointer (some ⟨bb,0,none⟩),.pointer (some ⟨bb,4,none⟩),.pointer (some ⟨B.b,0,none⟩),.pointer (some ⟨pr,3,none⟩),.int .i64 f,.int .i64 (k:Int),.func (.func 153) #[] #[.pointer (some ⟨W.heap.size+1,0,none⟩),.pointer (some ⟨W.heap.size+1+1,0,none⟩),.pointer (some ⟨W.heap.size+1+1+1,0,none⟩)],.int .i64 (y:Nat),undef,undef,undef,undef,undef,undef,undef,undef],defers:=[] } W' listed a u
    ∨ (listed.getD 6 false=true∧listed.getD 7 false=false∧a.eval (.tmp 20)=.bool true∧a.tmps.size=22∧fB w l T W' J pre (Md n y) u)
    ∨ (listed.getD 7 false=true∧a.eval (.tmp 21)=.bool false∧fB w l T W' J pre (Md n y) u)) hfol (by kernel_rfl) ?_ ?_ ?_
  ·exact .inl ⟨rfl,fun _ _=>rfl,rfl,AA.drew [] W',fun j hj hl=>(by rw [Eh] at hl;cases hl),rfl,Eh _ _,Eh _ _⟩
  ·intro listed a u i hS hcl hlz hi8 hin hdep;rcases hS with hF | ⟨h6,h7,h20,hsz,hD⟩ | ⟨h7,_⟩
   ·have put:=fun {j:Nat} {u':World} {v':Value} (k:AA [] u u') (hj:j<6) (hv:fW w l pr y n cc sa j v' u')=>hF.put (i:=j) (VV (w:=w) (l:=l) (pr:=pr) (y:=y) (n:=n) (cc:=cc) (sa:=sa)) k hj (show 20≤22 by omega) hv;have keep:=hF.keep;have t2:a.eval (.tmp 2)=.pointer (some ⟨pr,0,none⟩):=hF.low 2 (by omega);have t3:a.eval (.tmp 3)=.pointer (some ⟨W.heap.size,0,none⟩):=hF.low 3 (by omega);have t4:a.eval (.tmp 4)=.int .i64 (y:Int):=hF.low 4 (by omega);have got:=fun (j:Nat) (hj:j<6) (hl:listed.getD j false=true)=>hF.got j hj hl;match i,hi8,hdep,hin with
    | 0,_,hdep,_=>
     have c:=((show AK W' W.heap.size #[.func (.yield l) #[] #[]] from ⟨_,hYc'⟩).keeps keep).cell 0;exact D4 rfl rfl (by intro c h;cases h) (ld158 rfl t3 c) (.inl (put (AA.refl _ _) (by omega) rfl))
    | 1,_,hdep,_=>exact D4 rfl rfl (by intro c h;cases h) (L0 rfl t4) (.inl (put (AA.refl _ _) (by omega) rfl))
    | 2,_,hdep,_=>exact D4 rfl rfl (by intro c h;cases h) (fa148 rfl t2) (.inl (put (AA.refl _ _) (by omega) rfl))
    | 3,_,hdep,_=>
     have g1:a.eval (.tmp 16)=.pointer (some ⟨pr,0,none⟩):=got 2 (by omega) (hdep _ rfl ⟨2,.data⟩ (by simp) rfl);have c:=(hpr'.keeps keep).cell 0;exact D4 rfl rfl (by intro c h;cases h) (ld40 rfl g1 c) (.inl (put (AA.refl _ _) (by omega) rfl))
    | 4,_,hdep,_=>
     have g1:a.eval (.tmp 17)=.slice sa n cc:=got 3 (by omega) (hdep _ rfl ⟨3,.data⟩ (by simp) rfl);exact D4 rfl rfl (by intro c h;cases h) (len40 rfl g1) (.inl (put (AA.refl _ _) (by omega) rfl))
    | 5,_,hdep,_=>
     have g1:a.eval (.tmp 15)=.int .i64 (y:Int):=got 1 (by omega) (hdep _ rfl ⟨1,.data⟩ (by simp) rfl);have g2:a.eval (.tmp 18)=.int .i64 (n:Int):=got 4 (by omega) (hdep _ rfl ⟨4,.data⟩ (by simp) rfl);refine Mj rfl rfl (by intro c h;cases h) (L1 81 _ _ rfl _ func81 (by kernel_rfl) (by kernel_rfl) [.int .i64 (y:Int),.int .i64 (n:Int)] (by simp [g1,g2])) (htu.out u) ?_;rintro e u' ⟨rfl,⟨cs,hcs,htc⟩,ku⟩;exact ⟨_,rfl,.inl (put ku (by omega) ⟨u.heap.size,rfl,by have:=keep.size;omega,cs,hcs,htc.ext (fun p hp=>by unfold Md;rw [OJ _ hp])⟩)⟩
    | 6,_,hdep,_=>
     have g0:a.eval (.tmp 14)=.func (.yield l) #[] #[]:=got 0 (by omega) (hdep _ rfl ⟨0,.data⟩ (by simp) rfl);obtain ⟨g,g1,g2,g3⟩:∃ g,a.eval (.tmp 19)=.slice (some ⟨g,0,none⟩) n n∧w.heap.size≤g∧KQ u g n (Md n y):=got 5 (by omega) (hdep _ rfl ⟨5,.data⟩ (by simp) rfl);obtain ⟨fn,tm,as5,bo5,hy5,hR5⟩:=hyl.out u g g2 keep g3;refine iE rfl rfl (by intro c h;cases h) ?_;rw [gN rfl g0 g1 hy5];refine ⟨fun h=>(nomatch h),RoundIn.mono (F:=Fence.wide) hR5 ?_⟩;rintro e u' ⟨rfl,hJ6,g6⟩;refine .inr (.inl ⟨?_,?_,?_,?_,?_⟩)
     ·rw [BA,AZ,if_pos rfl,if_pos (by rw [hF.room];omega)];rfl
     ·rw [Ff (by omega)];exact hF.more.2
     ·exact GM (by rw [hF.size];show 20<22;omega)
     ·rw [To];exact hF.size
     ·exact ⟨g,hJ6,(keep.grT (by simp)).trans g6⟩
    | 7,_,hdep,_=>
     have:=hdep _ rfl ⟨6,.data⟩ (by simp) rfl;rw [hF.more.1] at this;cases this
   ·have l0:=hcl 6 h6 _ rfl ⟨0,.data⟩ (by simp) rfl;have l5:=hcl 6 h6 _ rfl ⟨5,.data⟩ (by simp) rfl;have l1:=hcl 5 l5 _ rfl ⟨1,.data⟩ (by simp) rfl;have l4:=hcl 5 l5 _ rfl ⟨4,.data⟩ (by simp) rfl;have l3:=hcl 4 l4 _ rfl ⟨3,.data⟩ (by simp) rfl;have l2:=hcl 3 l3 _ rfl ⟨2,.data⟩ (by simp) rfl;match i,hi8,hin with
    | 0,_,q=>rw [l0] at q;cases q
    | 1,_,q=>rw [l1] at q;cases q
    | 2,_,q=>rw [l2] at q;cases q
    | 3,_,q=>rw [l3] at q;cases q
    | 4,_,q=>rw [l4] at q;cases q
    | 5,_,q=>rw [l5] at q;cases q
    | 6,_,q=>rw [h6] at q;cases q
    | 7,_,_=>
     refine D4 rfl rfl (by intro c h;cases h) (not4 rfl h20) (.inr (.inr ⟨?_,?_,hD⟩))
     ·rw [BA,AZ,if_pos rfl,if_pos (by rw [hlz];show 7<8;omega)];rfl
     ·exact GM (by rw [hsz];omega)
   ·have l6:=hcl 7 h7 _ rfl ⟨6,.data⟩ (by simp) rfl;have l0:=hcl 6 l6 _ rfl ⟨0,.data⟩ (by simp) rfl;have l5:=hcl 6 l6 _ rfl ⟨5,.data⟩ (by simp) rfl;have l1:=hcl 5 l5 _ rfl ⟨1,.data⟩ (by simp) rfl;have l4:=hcl 5 l5 _ rfl ⟨4,.data⟩ (by simp) rfl;have l3:=hcl 4 l4 _ rfl ⟨3,.data⟩ (by simp) rfl;have l2:=hcl 3 l3 _ rfl ⟨2,.data⟩ (by simp) rfl;match i,hi8,hin with
    | 0,_,q=>rw [l0] at q;cases q
    | 1,_,q=>rw [l1] at q;cases q
    | 2,_,q=>rw [l2] at q;cases q
    | 3,_,q=>rw [l3] at q;cases q
    | 4,_,q=>rw [l4] at q;cases q
    | 5,_,q=>rw [l5] at q;cases q
    | 6,_,q=>rw [l6] at q;cases q
    | 7,_,q=>rw [h7] at q;cases q
  ·intro listed a u hS hall;have h6:=hall 6 (show 6<8 by omega);have h7:=hall 7 (show 7<8 by omega);rcases hS with hF | ⟨_,h,_⟩ | ⟨hx7,h21,g,hJ6,g6⟩
   ·rw [hF.more.1] at h6;cases h6
   ·rw [h] at h7;cases h7
   ·rename_i K hK;clear hx7;refine hK _ _ (wpIn_cond_false h21 (wpIn_skip ?_));have hlW':l≠W.heap.size:=(by omega);have hTW:∀ t∈l :: T,t≠W.heap.size:=fun t ht=>by
     have hsz:=hb.size;rcases AG.1 ht with rfl | ht
     ·omega
     ·have:=(hT t ht).1;omega
    have hTp:pr∉l :: T:=fun hm=>by
     have:=hpr0.lt;rcases AG.1 hm with e | hm
     ·omega
     ·exact (hT pr hm).2.2.2.1 rfl
    refine ⟨⟨pre++[(Md n y,g)],by rw [Am,Am,hpre];rfl,hJ6,?_,?_⟩,g6⟩
    ·exact (g6.block _ (by omega) (fun hm=>hTW _ hm rfl) (fun q=>by obtain ⟨_,_,_,e⟩:=q;rw [hYc'] at e;cases e)).trans hYc'
    ·obtain ⟨t,ht⟩:=hpr';exact ⟨t,(g6.block _ (AO.1 ht).1 hTp (fun q=>by have:=hpr0.lt;have:=q.1;omega)).trans ht⟩
 case done=>
  rintro xs W9 rfl ⟨pre,hpre,hJ9,hY9,hpr9⟩ hg9 hlt9 hD;have kP:=AA.putObj W9 W4.heap.size (.deferred none);have sP:GU W.heap.size W9 (W9.putObj W4.heap.size (.deferred none)):=kP.still (by simp only [AF];rintro i rfl;exact ⟨by omega,by rw [hD];intro _ _ _ e;cases e⟩);have hJP:=hJ _ _ _ hJ9 sP;have gP:Lo w.heap.size 40 (l :: T) W (W9.putObj W4.heap.size (.deferred none)):=(((kW4.grT (by simp)).trans (hg9.mono (fun i hi=>AP W4.heap.size hi))).trans (kP.grT (by simp))).drop (by omega);go_wp2_with fail
  refine ⟨by simp,.inl ⟨_,_,rfl,run_takeDeferred hD,?_⟩⟩;exact ⟨_,results_none rfl _ _ _,⟨_,rfl⟩,pre,by rw [hpre,IM,hk3],hJP,gP⟩
theorem VW {S:ST} {f:Int} {n:Nat} {R:List Nat→Prop} (h:GW S f n R) (p:List Nat→Bool) (hp:∀ l,p l=true↔R l):IM S f n=(DP n).filter p:=by
 unfold IM ST.trues;rw [show (0:Nat)=3 * 0 from rfl,MR n 0,List.filter_map,CZ];have e:∀ l∈DP n,(Md n ∘ (asnF · 0)) l=l:=fun l hl=>I3 0 hl;have e2:(DP n).filter ((fun y=>S.den f (IC (y:Nat))) ∘ (asnF · 0))=(DP n).filter p:=by
  apply List.filter_congr;intro l hl;have h1:=h.2 (IC ((asnF l 0:Nat):Int));rw [I3 0 hl] at h1;show S.den f (IC ((asnF l 0:Nat):Int))=p l;rw [Bg,h1,hp]
 rw [e2];conv=>rhs;rw [←List.map_id ((DP n).filter p)]
 apply Bn;intro l hl;exact e l (Ai.1 hl).1
section
variable {w:World} {bb gr cr:Nat} {B:SB} {S:ST} {rs:List BF} {x0 x1 x3:Value}
theorem Wu (h:F9 w bb B S gr cr rs x0 x1 x3) {i:Nat} {r:BF} (hi:rs[i]?=some r):Calls prog 40 #[.pointer (some ⟨bb,0,none⟩),.int .i64 (i:Int)] w fun e w'=>e=.returned (.func (.func 78) #[] #[.pointer (some ⟨w.heap.size,0,none⟩),.pointer (some ⟨w.heap.size+1,0,none⟩)])∧w' = (w.alloc (.cells #[.pointer (some ⟨bb,0,none⟩)] 86)).alloc (.cells #[.slice r.sa r.n r.cc,.int .i64 (r.layer:Int),.int .i64 r.fa,.int .i64 r.tu,.map (some r.rm)] 148):=by
 have hmf:∀ (fn:Fn) (first cap:Array Value) (w:World),(Instr.makeFunc fn first cap).run prog w=.ok (.func fn first cap) w:=fun _ _ _ _=>rfl;have kA:=AA.alloc [] w (.cells #[.pointer (some ⟨bb,0,none⟩)] 86);have zA:=AX w (.cells #[.pointer (some ⟨bb,0,none⟩)] 86);obtain ⟨cs,hc,hcs⟩:=(h.keeps0 kA).rel;have hil:(i:Int)<rs.length:=by have:=(AL.1 hi).1;omega
 have g0:(w.alloc (.cells #[.pointer (some ⟨bb,0,none⟩)] 86)).cell? ⟨gr,i * 5,none⟩=some (.slice r.sa r.n r.cc):=by rw [hc.cell];exact (hcs i r hi).c0
 have g1:(w.alloc (.cells #[.pointer (some ⟨bb,0,none⟩)] 86)).cell? ⟨gr,i * 5+1,none⟩=some (.int .i64 (r.layer:Int)):=by rw [hc.cell];exact (hcs i r hi).c1
 have g2:(w.alloc (.cells #[.pointer (some ⟨bb,0,none⟩)] 86)).cell? ⟨gr,i * 5+2,none⟩=some (.int .i64 r.fa):=by rw [hc.cell];exact (hcs i r hi).c2
 have g3:(w.alloc (.cells #[.pointer (some ⟨bb,0,none⟩)] 86)).cell? ⟨gr,i * 5+3,none⟩=some (.int .i64 r.tu):=by rw [hc.cell];exact (hcs i r hi).c3
 have g4:(w.alloc (.cells #[.pointer (some ⟨bb,0,none⟩)] 86)).cell? ⟨gr,i * 5+4,none⟩=some (.map (some r.rm)):=by rw [hc.cell];exact (hcs i r hi).c4
 have b2:=(h.keeps0 kA).cells.cell 2;simp at b2;clear hi hc hcs;generalize hWA:w.alloc (.cells #[.pointer (some ⟨bb,0,none⟩)] 86)=WA at *;have hAA:WA.cell? ⟨w.heap.size,0,none⟩=some (.pointer (some ⟨bb,0,none⟩)):=by rw [←hWA];exact (AK.new w #[.pointer (some ⟨bb,0,none⟩)] 86).cell 0
 go_in
 go_wp2_with fail
 go_ret
 exact ⟨rfl,rfl⟩
end
theorem iQ:(prog.info? 40).map (fun i=>(i.zero,i.size,i.bytes))=some (some (.slice none 0 0),1,24):=by kernel_rfl
def TupI (w3:World) (b lc n:Nat) (pre:List (List Nat×Nat)) (W:World):Prop:=∃ v,W.heap[lc]?=some (.cells #[v] 37 (0,0))∧W.ownsRow b 40 1 v pre.length (pre.map fun x=>.slice (some ⟨x.2,0,none⟩) n n)∧(∀ x∈pre,b≤x.2∧KQ W x.2 n x.1)∧b≤W.heap.size∧∀ i,i<b→i≠lc→W.heap[i]?=w3.heap[i]?
def lM (n:Nat) (L:List (List Nat)) (w:World) (e:Ending) (w':World):Prop:=∃ (v:Value) (xs:List (List Nat×Nat)),e=.returned (.tuple #[v,.int .i64 0])∧xs.map (·.1)=L∧w'.ownsRow w.heap.size 40 1 v xs.length (xs.map fun x:List Nat×Nat=>.slice (some ⟨x.2,0,none⟩) n n)∧(∀ x∈xs,w.heap.size≤x.2∧KQ w' x.2 n x.1)∧AA [] w w'
theorem VX (S:ST) (f:Int) {n:Nat} (h3:n≤3):(IM S f n).length≤512:=by
 unfold IM ST.trues;rw [AY,show (0:Nat)=3 * 0 from rfl,MR n 0];refine At (Bl _ _) ?_;rw [AY];exact PY _ h3
theorem Za {w:World} {g:Nat} {cs:Array Value} {t:TypeId} (h:w.heap[g]?=some (.cells cs t (0,0))) (k:Nat) (v:Value):(w.setCell ⟨g,k,none⟩ v).heap[g]?=some (.cells (cs.setIfInBounds k v) t (0,0)):=by
 have hg:=(AO.1 h).1;unfold World.setCell at *;simp [Array.getElem?_modify,h]
theorem YL {w:World} {z eb bb:Nat} {B:SB} {S:ST} {gr cr:Nat} {rs:List BF} {tv mv:Value} {ka:Option Addr} {ks:List CluX} {kc:Nat} {m:Mean} {vals:List Nat} {Fs:Nat→List Nat→Prop} {rk:Nat→List Nat→Option Nat} (h:FA w z bb B S gr cr rs tv mv ka ks kc m vals Fs rk) (he:AK w eb #[.pointer (some ⟨bb,0,none⟩)]) {s:ByteArray} {i:Nat} (hs:Dp (m.rels.map Prod.fst) s=some i) {r:BF} (hi:rs[i]?=some r) (hn1:1≤r.n) :
  CallsIn Fence.wide 0 prog 18 #[.pointer (some ⟨eb,0,none⟩),.string s] w (lM r.n (IM S r.tu r.n) w):=by
 obtain ⟨i4,hi4,hx0,hx1,hx2⟩:=info_parts iQ;have hn3:=h.bse.cols r (AE hi);have hpl:=AD (Oj h.bse h.set s);rw [hs] at hpl;have e0:=he.cell 0;simp at e0;have kL:=AA.alloc [] w (.cells #[.slice none 0 0] 37);have zL:=AX w (.cells #[.slice none 0 0] 37);have hL:(w.alloc (.cells #[.slice none 0 0] 37)).heap[w.heap.size]?=some (.cells #[.slice none 0 0] 37 (0,0)):=World.alloc_heap_new w _;have hbL:=h.bse.keeps0 kL;have heL:=he.keeps kL;have e1:=heL.cell 0;simp at e1;have hbt:=AD (Wu hbL hi);rw [zL] at hbt;clear hs;generalize hWL:w.alloc (.cells #[.slice none 0 0] 37)=WL at *;refine callsIn_of_wp_marks func18 rfl trivial ?_ rfl;simp only [ntmps18,Bw,AU,Ao,Nat.reduceAdd,Nat.reduceSub,B0,Bz,CW,Bo,BM,A8];refine wpIn_wide.2 ?_;go_wp2_with fail
 refine hpl.out.mono ?_;rintro e w1 ⟨rfl,rfl⟩;go_wp2_with fail
 refine hbt.out.mono ?_;rintro e w2 ⟨rfl,rfl⟩;go_wp2_with fail
 have kA:=AA.alloc [] WL (.cells #[.pointer (some ⟨bb,0,none⟩)] 86);have hA:=AK.new WL #[.pointer (some ⟨bb,0,none⟩)] 86;have kB:=AA.alloc [] (WL.alloc (.cells #[.pointer (some ⟨bb,0,none⟩)] 86)) (.cells #[.slice r.sa r.n r.cc,.int .i64 (r.layer:Int),.int .i64 r.fa,.int .i64 r.tu,.map (some r.rm)] 148);have hB:=AK.new (WL.alloc (.cells #[.pointer (some ⟨bb,0,none⟩)] 86)) #[.slice r.sa r.n r.cc,.int .i64 (r.layer:Int),.int .i64 r.fa,.int .i64 r.tu,.map (some r.rm)] 148;have z2:((WL.alloc (.cells #[.pointer (some ⟨bb,0,none⟩)] 86)).alloc (.cells #[.slice r.sa r.n r.cc,.int .i64 (r.layer:Int),.int .i64 r.fa,.int .i64 r.tu,.map (some r.rm)] 148)).heap.size=w1.heap.size+1+1+1:=by rw [AX,AX,zL]
 rw [AX,zL] at hB;rw [zL] at hA;have hA2:=hA.keeps kB;have kAB:=kA.trans kB;have hL2:((WL.alloc (.cells #[.pointer (some ⟨bb,0,none⟩)] 86)).alloc (.cells #[.slice r.sa r.n r.cc,.int .i64 (r.layer:Int),.int .i64 r.fa,.int .i64 r.tu,.map (some r.rm)] 148)).heap[w1.heap.size]?=some (.cells #[.slice none 0 0] 37 (0,0)):=(kAB.block _ (by omega) (by simp)).trans hL;generalize (WL.alloc (.cells #[.pointer (some ⟨bb,0,none⟩)] 86)).alloc (.cells #[.slice r.sa r.n r.cc,.int .i64 (r.layer:Int),.int .i64 r.fa,.int .i64 r.tu,.map (some r.rm)] 148)=W2 at *;have kW2:AA [] w1 W2:=kL.trans kAB;have hb2:=hbL.keeps0 kAB;have hbl:=h.bse.cells.lt
 have hit:=Zv (w:=W2) hb2.eng hA2 hB hb2.bs (h.all i r hi).tu hn1 hn3 [w1.heap.size] (fun t ht=>by
  simp only [AF] at ht;subst ht
  exact ⟨by omega,h.bse.eng.sat.fresh (AQ _),by omega,by omega,by omega⟩)
 refine (wpIn_wide (n:=0)).1 ?_
 refine Oe (gf:=78) (lb:=#[.pointer (some ⟨w1.heap.size+1,0,none⟩),.pointer (some ⟨w1.heap.size+1+1,0,none⟩)]) rfl (enters_of func78 (by kernel_rfl) rfl) (T:=[w1.heap.size]) (by simp;omega) hit
  (fun pre x W1 W3 hc hs=>⟨hc.1,hc.2.1,hc.2.2.still hs⟩) (fun _=>rfl)
  (TupI W2 W2.heap.size w1.heap.size r.n)
  (fun pre W1 W3 hI hs=>by
   obtain ⟨v,a1,a2,a3,a4,a5⟩:=hI
   exact ⟨v,(hs.block _ (AO.1 a1).1 (.inr ⟨_,_,_,a1⟩)).trans a1,Ka a2 hs,fun x hx=>⟨(a3 x hx).1,(a3 x hx).2.still hs⟩,At a4 hs.size,fun j hj hne=>(hs.block j (by omega) (.inl hj)).trans (a5 j hj hne)⟩) ⟨_,hL2,World.ownsRow_nil ..,by simp,AQ _,fun _ _ _=>rfl⟩
  (fun x a' _=>a' = { tmps:=#[.pointer (some ⟨eb,0,none⟩),.string s,undef,undef,.slice none 0 0,.int .i64 0,.int .i64 (i:Int),.bool true,.pointer (some ⟨w1.heap.size,0,none⟩),.slice (some ⟨x.2,0,none⟩) r.n r.n,.tuple #[.int .i64 (i:Int),.bool true],.pointer (some ⟨eb,0,none⟩),.pointer (some ⟨eb,0,none⟩),.pointer (some ⟨eb,0,none⟩),.pointer (some ⟨bb,0,none⟩),.string s,.tuple #[.int .i64 (i:Int),.bool true],.int .i64 (i:Int),.bool true,.bool true,.bool false,.pointer (some ⟨eb,0,none⟩),.pointer (some ⟨eb,0,none⟩),.pointer (some ⟨eb,0,none⟩),.pointer (some ⟨bb,0,none⟩),.int .i64 (i:Int),.func (.func 78) #[] #[.pointer (some ⟨w1.heap.size+1,0,none⟩),.pointer (some ⟨w1.heap.size+1+1,0,none⟩)],.slice (some ⟨x.2,0,none⟩) r.n r.n,undef,undef,undef,undef,undef],defers:=[] })
  (fun _ _ _ _ h _=>h) ?assign ?body ?done
 case assign=>
  intro l1 pre x W' K hlt hI hc hK;simp only [eTu,List.zip_toArray,List.zip_cons_cons,List.zip_nil_right,List.foldl_toArray',Bw,AU,Ao,List.foldl_cons,List.foldl_nil,AI,AR,AS];gi_wp2
  exact hK _ _ rfl (AA.refl _ _)
 case body=>
  rintro l1 pre x a' W' hlt ⟨v,a1,a2,a3,a4,a5⟩ ⟨c1,c2,c3⟩ rfl;have hLc:AK W' w1.heap.size #[v]:=⟨_,a1⟩;have d0:=hLc.cell 0;simp at d0;obtain ⟨va,vc,hv⟩:=Al a2;subst hv;have kC:=AA.alloc [] W' (.cells #[.slice (some ⟨x.2,0,none⟩) r.n r.n] 40);have zC:=AX W' (.cells #[.slice (some ⟨x.2,0,none⟩) r.n r.n] 40);have hrowC:=AH a2 kC;have hplen:pre.length≤4000:=by
   have:=c1.length_le;rw [AY,AJ] at this;have:=VX S r.tu hn3;omega
  have Hz2:=AD z2;clear z2;have hone:∀ (j:Nat) (u:Value),[Value.slice (some ⟨x.2,0,none⟩) r.n r.n][j]?=some u→(W'.alloc (.cells #[.slice (some ⟨x.2,0,none⟩) r.n r.n] 40)).cell? ((⟨W'.heap.size,0,none⟩:Addr).add j)=some u:=by
   intro j u hu;rw [Addr.add_lit,Ag,(AK.new W' #[.slice (some ⟨x.2,0,none⟩) r.n r.n] 40).cell];match j with
   | 0=>simpa using hu
   | j+1=>simp at hu
  gi_wp2_with (gi_at_builtin;refine wpListIn_append_own_at _ rfl _ _ 37 rfl W2.heap.size 40 i4 _ 1 24 underlying37 hi4 hx0 hx1 hx2 rfl (by decide) _ pre.length _ rfl hrowC ⟨W'.heap.size,0,none⟩ 1 1 [.slice (some ⟨x.2,0,none⟩) r.n r.n] rfl (by simp) hone (by simp [Value.oneCell']) (by unfold maxLen;omega) (by omega) (by rw [zC];omega) ?_)
  intro v6 W6 hown6 hgrow6 hnil6 hat6;obtain ⟨g6,cp6,rfl⟩:=EL hown6;have k6:=grownBy_keeps' hgrow6 (Aa (.slice va pre.length vc)) (fun r e=>.inl (by simp [Aa,e]));have hlow:∀ j∈Aa (.slice va pre.length vc),W2.heap.size≤j∧∃ cs,(W'.alloc (.cells #[.slice (some ⟨x.2,0,none⟩) r.n r.n] 40)).heap[j]?=some (.cells cs 40 (0,0)):=fun j hj=>⟨(As hrowC j (by simpa [Aa] using hj)).1,Om hrowC j (by simpa [Aa] using hj)⟩;have hLC2:w1.heap.size<W2.heap.size:=by have:=Hz2.out;omega
  have hL6:W6.heap[w1.heap.size]?=some (.cells #[.slice va pre.length vc] 37 (0,0)):=(k6.block _ (by omega) (fun hm=>by have:=(hlow _ hm).1;omega)).trans ((kC.block _ (by omega) (by simp)).trans a1);have hL6c:AK W6 w1.heap.size #[.slice va pre.length vc]:=⟨_,hL6⟩;have d6:=hL6c.cell 0;have f6:=hL6c.frozen 0;simp at d6;have kS:=AA.setCell W6 ⟨w1.heap.size,0,none⟩ (.slice (some ⟨g6,0,none⟩) (pre.length+1) cp6);have hL7:=Za hL6 0 (.slice (some ⟨g6,0,none⟩) (pre.length+1) cp6);have hrow7:∀ (q:List Nat×Nat),W2.heap.size≤q.2→KQ W' q.2 r.n q.1→KQ (W6.setCell ⟨w1.heap.size,0,none⟩ (.slice (some ⟨g6,0,none⟩) (pre.length+1) cp6)) q.2 r.n q.1:=fun q hq1 hq=>by
   have q1:=hq.keeps kC;refine (q1.keeps k6 (fun hm=>?_)).keeps kS (by simp;omega);obtain ⟨_,cs,e⟩:=hlow _ hm;obtain ⟨cs2,e2,_⟩:=q1;rw [show (W'.alloc (.cells #[.slice (some ⟨x.2,0,none⟩) r.n r.n] 40)).heap[q.2]?=_ from e2] at e;cases e
  have hown7:=AH hown6 kS (fun j hj hm=>by
   simp only [AF] at hm;have:=(As hown6 j hj).1
   omega)
  have g7:Lo W2.heap.size 40 [w1.heap.size] W' (W6.setCell ⟨w1.heap.size,0,none⟩ (.slice (some ⟨g6,0,none⟩) (pre.length+1) cp6)):=((kC.grT (by simp)).trans (k6.grTrow (fun j hj=>.inr ⟨(hlow j hj).1,by obtain ⟨cs,e⟩:=(hlow j hj).2;exact ⟨cs,_,e⟩⟩))).trans (kS.grT (by simp))
  have Hfin:Hid (TupI W2 W2.heap.size w1.heap.size r.n (pre++[x]) (W6.setCell ⟨w1.heap.size,0,none⟩ (.slice (some ⟨g6,0,none⟩) (pre.length+1) cp6))∧Lo W2.heap.size 40 [w1.heap.size] W' (W6.setCell ⟨w1.heap.size,0,none⟩ (.slice (some ⟨g6,0,none⟩) (pre.length+1) cp6))):=AD ⟨⟨_,by simpa using hL7,by rw [AJ,Am];exact hown7,fun q hq=>by
    rcases AC.1 hq with hq | hq
    ·exact ⟨(a3 q hq).1,hrow7 q (a3 q hq).1 (a3 q hq).2⟩
    ·simp only [AF] at hq;subst hq
     exact ⟨c2,hrow7 q c2 c3⟩,At a4 g7.size,fun j hj hne=>(g7.block j (by omega) (by simpa using hne) (fun q=>by have:=q.1;omega)).trans (a5 j hj hne)⟩,g7⟩
  clear g7 hown7 hrow7 hL7 hlow hgrow6 hnil6 hat6 hown6 hrowC hone hit;gi_wp2_with fail
  exact Hfin.out
 case done=>
  rintro xs W9 hG ⟨v,a1,a2,a3,a4,a5⟩ hg9 hlt9 hD;have hLc:AK W9 w1.heap.size #[v]:=⟨_,a1⟩;have d0:=hLc.cell 0;simp at d0;have kP:=AA.putObj W9 W2.heap.size (.deferred none);have sP:GU W2.heap.size W9 (W9.putObj W2.heap.size (.deferred none)):=kP.still (by simp only [AF];rintro i rfl;exact ⟨AQ _,by rw [hD];intro _ _ _ e;cases e⟩);have Hrow:=AD (Fq (Ka a2 sP) (show w1.heap.size≤W2.heap.size by omega))
  have Hk:Hid (AA [] w1 (W9.putObj W2.heap.size (.deferred none))):=AD ⟨hg9.os.trans kW2.os,hg9.tape.trans kW2.tape,hg9.output.trans kW2.output,At kW2.size (At hg9.size kP.size),fun j hj _=>by
   rw [kP.block j (by have:=hg9.size;omega) (by simp;omega),a5 j (by omega) (by omega)]
   exact kW2.block j hj (by simp)⟩
  clear hit a2;go_wp2_with fail
  refine ⟨by simp,.inl ⟨_,_,rfl,run_takeDeferred hD,?_⟩⟩;refine ⟨_,results_tmp2 rfl _ _ _,v,xs,rfl,hG,Hrow.out,fun x hx=>⟨by have:=(a3 x hx).1;omega,(a3 x hx).2.still sP⟩,Hk.out⟩
theorem Js {w:World} {z eb bb:Nat} {B:SB} {S:ST} {gr cr:Nat} {rs:List BF} {tv mv:Value} {ka:Option Addr} {ks:List CluX} {kc:Nat} {m:Mean} {vals:List Nat} {Fs:Nat→List Nat→Prop} {rk:Nat→List Nat→Option Nat} (h:FA w z bb B S gr cr rs tv mv ka ks kc m vals Fs rk) (hf:Dt m) (he:AK w eb #[.pointer (some ⟨bb,0,none⟩)]) {s:ByteArray} {i:Nat} (hs:Dp (m.rels.map Prod.fst) s=some i) {nm:ByteArray} {cols:List Nat} (hc:m.rels[i]?=some (nm,cols)) :
  Calls prog 18 #[.pointer (some ⟨eb,0,none⟩),.string s] w (lM cols.length ((DP cols.length).filter (fun l=>(rk i l).isSome)) w):=by
 obtain ⟨r,hr⟩:∃ r,rs[i]?=some r:=⟨_,AB (by rw [h.len];exact (AL.1 hc).1)⟩;have hn:=(h.rels i r nm cols hr hc).1;have h1:=hf.cols _ (AE hc);have:=callsIn_wide.1 (YL h he hs hr (by rw [hn];exact h1));rw [VW (h.all i r hr).tu (fun l=>(rk i l).isSome) (fun l=>Iff.rfl),hn] at this;exact this
end
end Go.Proofs.YtgjomknpjigkhaaGreatDoor
