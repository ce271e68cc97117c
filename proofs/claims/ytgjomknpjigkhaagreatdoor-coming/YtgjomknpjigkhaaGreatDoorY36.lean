import Derived.Test.YtgjomknpjigkhaaGreatDoorY33
import Derived.Test.YtgjomknpjigkhaaGreatDoorY34
import Derived.Test.YtgjomknpjigkhaaGreatDoorY35
import Derived.ProofKit
import Derived.OpenShut
import Derived.Deep.DeepHandedRow
import Derived.Lib.LaidTab
import Derived.WideKeyArgs
import Derived.Deep.Slices
import Derived.SizedLaws
namespace Go.Proofs.YtgjomknpjigkhaaGreatDoor
open Go.Proofs.Tryz
set_option maxRecDepth 100000
set_option maxHeartbeats 4000000
section
open Go.RowKit
def fk (z:Nat) (f:Bc):Nat×List Nat:=(kOf f.rel,Cl z f.L (kOf f.rel))
def TR (z:Nat) (hs:List Bc) (f:Bc):Option Nat:=hs.findIdx? (fun h=>decide (fk z h=fk z f))
def TQ (z:Nat) (hs:List Bc) (f:Bc):List Bc:=match TR z hs f with | some i=>hs.take i++hs.drop (i+1) | none=>hs++[f]
def jU (z:Nat) (out:List Bc) (f:Bc):List Bc:=if TR z out f=none then out++[f] else out
def dst (z:Nat) (fs:List Bc):List Bc:=fs.foldl (jU z) []
def Dy (z:Nat) (hs:List Bc):List (Nat×List Nat):=hs.map (fk z)
theorem GD {z:Nat} {hs:List Bc} {i:Nat} {l:List Nat}:J1 z hs i l↔(i,l)∈Dy z hs:=by
 unfold J1 Dy;rw [AR];constructor
 ·rintro ⟨f,hf,e,h⟩;subst e;exact ⟨f,hf,by rw [←h];rfl⟩
 ·rintro ⟨f,hf,e⟩;unfold fk at e;injection e with e1 e2;exact ⟨f,hf,e1,e2⟩
theorem Mb {z:Nat} {hs:List Bc} {f:Bc} (h:TR z hs f=none):fk z f∉Dy z hs:=fun hm=>by
 obtain ⟨g,hg,e⟩:=AR.1 hm;have:=Bu.1 h g hg;simp [e] at this
theorem Pt {z:Nat} {hs:List Bc} {f:Bc} {i:Nat} (h:TR z hs f=some i):i<hs.length∧(Dy z hs)[i]?=some (fk z f):=by
 obtain ⟨hi,h1,_⟩:=B7.1 h;refine ⟨hi,?_⟩;unfold Dy;rw [AX,AB hi];simpa using h1
theorem Q2 {α:Type}:∀ {l:List α} {i:Nat} {x:α},l.Nodup→l[i]?=some x→∀ y,y∈l.take i++l.drop (i+1)↔y∈l∧y≠x
 | [],i,x,_,h,y=>by simp at h
 | a :: l,0,x,hn,h,y=>by
  simp at h;subst h;obtain ⟨h1,h2⟩:=B9.1 hn;simp only [Ca,BU,Ad,Bi,BM,AJ];constructor
  ·exact fun hy=>⟨.inr hy,fun e=>h1 (e ▸ hy)⟩
  ·rintro ⟨e | hy,hne⟩
   ·exact absurd e hne
   ·exact hy
 | a :: l,i+1,x,hn,h,y=>by
  obtain ⟨h1,h2⟩:=B9.1 hn;have ih:=Q2 h2 (by simpa using h) y (i:=i) (x:=x);simp only [Bs,Bi,A6,AJ,ih];have hx:x∈l:=AF (by simpa using h);constructor
  ·rintro (e | ⟨hy,hne⟩)
   ·exact ⟨.inl e,fun e2=>h1 (by rw [←e,e2];exact hx)⟩
   ·exact ⟨.inr hy,hne⟩
  ·rintro ⟨e | hy,hne⟩
   ·exact .inl e
   ·exact .inr ⟨hy,hne⟩
theorem WQ {α:Type} {l:List α} {i:Nat} (h:l.Nodup):(l.take i++l.drop (i+1)).Nodup:=by
 have hs:(l.take i++l.drop (i+1)).Sublist l:=by
  conv=>rhs;rw [←List.take_append_drop i l]
  exact List.Sublist.append (List.Sublist.refl _) (by rw [show l.drop (i+1)=(l.drop i).drop 1 by rw [List.drop_drop]];exact List.drop_sublist _ _)
 exact hs.nodup h
theorem Uo {z:Nat} {hs:List Bc} {f:Bc} {i:Nat} (h:TR z hs f=some i):Dy z (TQ z hs f)=(Dy z hs).take i++(Dy z hs).drop (i+1):=by
 unfold TQ Dy;rw [h];simp [List.map_take,List.map_drop]
theorem Up {z:Nat} {hs:List Bc} {f:Bc} (h:TR z hs f=none):Dy z (TQ z hs f)=Dy z hs++[fk z f]:=by
 unfold TQ Dy;rw [h];simp
theorem Oz {α:Type} {l:List α} {x:α} (h:l.Nodup) (hx:x∉l):(l++[x]).Nodup:=by
 rw [BN];exact ⟨h,by simp,fun a ha b hb e=>by simp only [AG] at hb;subst hb;subst e;exact hx ha⟩
theorem ZA {z:Nat} {hs:List Bc} (f:Bc) (h:(Dy z hs).Nodup):(Dy z (TQ z hs f)).Nodup:=by
 cases hq:TR z hs f with
 | some i=>rw [Uo hq];exact WQ h
 | none=>rw [Up hq];exact Oz h (Mb hq)
theorem iL {z:Nat} {hs:List Bc} {f:Bc}:(TQ z hs f).length≤hs.length+1:=by
 unfold TQ;split
 ·rw [AN,A5,List.length_drop];omega
 ·rw [AN];exact AS _
theorem iK {z:Nat} {hs:List Bc} {f g:Bc} (h:g∈TQ z hs f):g∈hs∨g=f:=by
 unfold TQ at h;split at h
 ·rcases AC.1 h with h | h
  ·exact .inl (Cj h)
  ·exact .inl (List.mem_of_mem_drop h)
 ·rcases AC.1 h with h | h
  ·exact .inl h
  ·exact .inr (by simpa using h)
theorem I7 {z:Nat}:∀ (fs out:List Bc),(Dy z out).Nodup→(Dy z (fs.foldl (jU z) out)).Nodup∧(∀ q,q∈Dy z (fs.foldl (jU z) out)↔q∈Dy z out∨q∈Dy z fs)∧(fs.foldl (jU z) out).length≤out.length+fs.length∧(∀ g∈fs.foldl (jU z) out,g∈out∨g∈fs)
 | [],out,h=>⟨h,fun q=>by simp [Dy],by simp,fun g hg=>.inl hg⟩
 | f :: fs,out,h=>by
  rw [D8];have hd:jU z out f=if TR z out f=none then out++[f] else out:=rfl;cases hq:TR z out f with
  | none=>
   rw [hq,if_pos rfl] at hd;rw [hd];have hk:Dy z (out++[f])=Dy z out++[fk z f]:=(by simp [Dy]);obtain ⟨a,b,c,d⟩:=I7 fs (out++[f]) (by rw [hk];exact Oz h (Mb hq));refine ⟨a,fun q=>?_,?_,fun g hg=>?_⟩
   ·rw [b q,hk];rw [AC,AG,or_assoc];simp only [Dy,A0,AJ]
   ·rw [AN,Ak] at c;rw [AV];omega
   ·rcases d g hg with d | d
    ·rcases AC.1 d with d | d
     ·exact .inl d
     ·exact .inr (by simp at d;simp [d])
    ·exact .inr (by simp [d])
  | some i=>
   rw [hq,if_neg (by simp)] at hd;rw [hd];obtain ⟨a,b,c,d⟩:=I7 fs out h;have hm:fk z f∈Dy z out:=AF (Pt hq).2;refine ⟨a,fun q=>?_,by rw [AV];omega,fun g hg=>(d g hg).imp id (fun q=>by simp [q])⟩;rw [b q];simp only [Dy,A0,AJ];constructor
   ·rintro (x | x)
    ·exact .inl x
    ·exact .inr (.inr x)
   ·rintro (x | x | x)
    ·exact .inl x
    ·rw [x];exact .inl hm
    ·exact .inr x
theorem YA (z:Nat) (fs:List Bc):J1 z (dst z fs)=J1 z fs:=by
 funext i l
 apply propext;rw [GD,GD,dst,(I7 fs [] (by simp [Dy])).2.1];simp [Dy]
theorem eG (z:Nat) (fs:List Bc) {i:Nat} {f:Bc} (h:fs[i]?=some f):dst z (fs.take (i+1))=jU z (dst z (fs.take i)) f:=by
 unfold dst;rw [An,h,List.foldl_append];rfl
def Va (F:Nat→List Nat→Prop) (p:Nat×List Nat):Nat→List Nat→Prop:=fun i l=>if (i,l)=p then ¬ F i l else F i l
theorem Yc (F:Nat→List Nat→Prop) (p:Nat×List Nat):Va (Va F p) p=F:=by
 funext i l
 unfold Va;by_cases h:(i,l)=p
 ·rw [if_pos h,if_pos h];exact propext Classical.not_not
 ·rw [if_neg h,if_neg h]
theorem SD {z:Nat} {hs:List Bc} (f:Bc) (h:(Dy z hs).Nodup):J1 z (TQ z hs f)=Va (J1 z hs) (fk z f):=by
 funext i l
 apply propext;unfold Va;rw [GD];cases hq:TR z hs f with
 | some j=>
  have hm:=(Pt hq).2;rw [Uo hq,Q2 h hm];by_cases e:(i,l)=fk z f
  ·rw [if_pos e];constructor
   ·exact fun q=>absurd e q.2
   ·intro q;exact absurd (GD.2 (by rw [e];exact AF hm)) q
  ·rw [if_neg e,GD];exact ⟨fun q=>q.1,fun q=>⟨q,e⟩⟩
 | none=>
  rw [Up hq,AC,AG];by_cases e:(i,l)=fk z f
  ·rw [if_pos e,GD];exact ⟨fun _ q=>Mb hq (by rw [←e];exact q),fun _=>.inr e⟩
  ·rw [if_neg e,GD];exact ⟨fun q=>q.elim id (fun x=>absurd x e),.inl⟩
theorem gD {F:Nat→List Nat→Prop} {i:Nat} {l:List Nat} (h:F i l):Xc F i (fun t=>F i t∧¬ t=l)=Va F (i,l):=by
 funext j t
 apply propext;unfold Xc Va;by_cases e:j=i
 ·subst e;rw [if_pos rfl];by_cases e2:t=l
  ·subst e2;rw [if_pos rfl];exact ⟨fun q=>absurd rfl q.2,fun q=>absurd h q⟩
  ·rw [if_neg (by simpa using e2)];exact ⟨fun q=>q.1,fun q=>⟨q,e2⟩⟩
 ·rw [if_neg e,if_neg (by simp [e])]
theorem mI {F:Nat→List Nat→Prop} {i:Nat} {l:List Nat} (h:¬ F i l):Xc F i (fun t=>F i t∨t=l)=Va F (i,l):=by
 funext j t
 apply propext;unfold Xc Va;by_cases e:j=i
 ·subst e;rw [if_pos rfl];by_cases e2:t=l
  ·subst e2;rw [if_pos rfl];exact ⟨fun _=>h,fun _=>.inr rfl⟩
  ·rw [if_neg (by simpa using e2)];exact ⟨fun q=>q.elim id (fun x=>absurd x e2),.inl⟩
 ·rw [if_neg e,if_neg (by simp [e])]
def hsT (z:Nat) (fs ms:List Bc) (j:Nat):List Bc:=(ms.take j).foldl (TQ z) (dst z fs)
theorem Uw (z:Nat) (fs ms:List Bc) {j:Nat} {f:Bc} (h:ms[j]?=some f):hsT z fs ms (j+1)=TQ z (hsT z fs ms j) f:=by
 unfold hsT;rw [An,h,List.foldl_append];rfl
theorem UG {z:Nat}:∀ (ms hs:List Bc),(Dy z hs).Nodup→(Dy z (ms.foldl (TQ z) hs)).Nodup∧(ms.foldl (TQ z) hs).length≤hs.length+ms.length∧∀ g∈ms.foldl (TQ z) hs,g∈hs∨g∈ms
 | [],hs,h=>⟨h,by simp,fun g hg=>.inl hg⟩
 | f :: ms,hs,h=>by
  rw [D8];obtain ⟨a,b,c⟩:=UG ms (TQ z hs f) (ZA f h);have:=iL (z:=z) (hs:=hs) (f:=f);refine ⟨a,by rw [AV];omega,fun g hg=>?_⟩;rcases c g hg with c | c
  ·rcases iK c with c | c
   ·exact .inl c
   ·exact .inr (by simp [c])
  ·exact .inr (by simp [c])
theorem KY (z:Nat) (fs ms:List Bc) (j:Nat):(Dy z (hsT z fs ms j)).Nodup∧(hsT z fs ms j).length≤fs.length+j∧∀ g∈hsT z fs ms j,g∈fs∨g∈ms:=by
 obtain ⟨a,_,c,d⟩:=I7 (z:=z) fs [] (by simp [Dy]);obtain ⟨e,f,g⟩:=UG (ms.take j) (dst z fs) a;refine ⟨e,?_,fun q hq=>?_⟩
 ·have h1:(dst z fs).length≤fs.length:=by simpa [dst] using c
  rw [A5] at f;unfold hsT;omega
 ·rcases g q hq with h | h
  ·exact .inl ((d q h).elim (fun x=>by cases x) id)
  ·exact .inr (Cj h)
theorem LA {a b:Nat} (ha:a<8) (hb:b<8) (h:UInt8.ofNat (48+a)=UInt8.ofNat (48+b)):a=b:=by
 have:=congrArg UInt8.toNat h;simp at this;omega
theorem len1:∀ {l:List Nat},l.length=1→∃ a,l=[a]
 | [a],_=>⟨a,rfl⟩
theorem len2:∀ {l:List Nat},l.length=2→∃ a b,l=[a,b]
 | [a,b],_=>⟨a,b,rfl⟩
theorem len3:∀ {l:List Nat},l.length=3→∃ a b c,l=[a,b,c]
 | [a,b,c],_=>⟨a,b,c,rfl⟩
theorem Pd (k:Nat) (l:List Nat):Ah (EA k l)=IC k++40 :: (Ah (EQ l)++[41,46]):=by
 simp [EA,LQ,QC,Ah,Iw,Cy,BF,ba]
theorem lU (a:Nat):Ah (EQ [a])=[UInt8.ofNat (48+a)]:=rfl
theorem lT (a b:Nat):Ah (EQ [a,b])=[UInt8.ofNat (48+a),44,UInt8.ofNat (48+b)]:=rfl
theorem lS (a b c:Nat):Ah (EQ [a,b,c])=[UInt8.ofNat (48+a),44,UInt8.ofNat (48+b),44,UInt8.ofNat (48+c)]:=rfl
theorem dX {k k':Nat} {l l':List Nat} (hk:k<4) (hk':k' < 4) (hl:l.length=relK k) (hl':l'.length=relK k') (hx:∀ x∈l,x<8) (hx':∀ x∈l',x<8) (h:ba (Ah (EA k l))=ba (Ah (EA k' l'))):(k,l)=(k',l'):=by
 have h:Ah (EA k l)=Ah (EA k' l'):=by
  have h1:(ba (Ah (EA k l))).data.toList=(ba (Ah (EA k' l'))).data.toList:=by rw [h]
  exact h1
 rw [Pd,Pd] at h;have d:(k=0∨k=1∨k=2∨k=3)∧(k' = 0∨k' = 1∨k' = 2∨k' = 3):=⟨by omega,by omega⟩;obtain ⟨d1,d2⟩:=d;have hkk:k=k':=by
  rcases d1 with rfl | rfl | rfl | rfl <;> rcases d2 with rfl | rfl | rfl | rfl <;> first | rfl | (simp [IC] at h)
 subst hkk;have h2:=List.append_cancel_left h;injection h2 with _ h3;have h4:=List.append_cancel_right h3;clear h h3;congr 1
 have two:∀ {l l':List Nat},l.length=2→l'.length=2→(∀ x∈l,x<8)→(∀ x∈l',x<8)→Ah (EQ l)=Ah (EQ l')→l=l':=fun {l l'} hl hl' hx hx' h4=>by
  obtain ⟨a,b,rfl⟩:=len2 hl;obtain ⟨a',b',rfl⟩:=len2 hl';rw [lT,lT] at h4;injection h4 with h5 h6;injection h6 with _ h7;injection h7 with h8 _;rw [LA (hx a (by simp)) (hx' a' (by simp)) h5,LA (hx b (by simp)) (hx' b' (by simp)) h8]
 rcases d1 with rfl | rfl | rfl | rfl
 ·obtain ⟨a,rfl⟩:=len1 hl;obtain ⟨b,rfl⟩:=len1 hl';rw [lU,lU] at h4;injection h4 with h5 _;rw [LA (hx a (by simp)) (hx' b (by simp)) h5]
 ·exact two hl hl' hx hx' h4
 ·exact two hl hl' hx hx' h4
 ·obtain ⟨a,b,c,rfl⟩:=len3 hl;obtain ⟨a',b',c',rfl⟩:=len3 hl';rw [lS,lS] at h4;injection h4 with h5 h6;injection h6 with _ h7;injection h7 with h8 h9;injection h9 with _ h10;injection h10 with h11 _;rw [LA (hx a (by simp)) (hx' a' (by simp)) h5,LA (hx b (by simp)) (hx' b' (by simp)) h8,LA (hx c (by simp)) (hx' c' (by simp)) h11]
theorem Zg {z:Nat} (hz:1≤z) (h8:z≤8) (f g:Bc):ba (Ah (EA (kOf f.rel) (Cl z f.L (kOf f.rel))))=ba (Ah (EA (kOf g.rel) (Cl z g.L (kOf g.rel))))↔fk z f=fk z g:=by
 have hc:∀ (h:Bc) (x:Nat),x∈Cl z h.L (kOf h.rel)→x<8:=fun h x hx=>by
  obtain ⟨i,_,rfl⟩:=AR.1 hx;have:=HQ hz h.L i;omega
 constructor
 ·exact fun e=>dX (HB _) (HB _) (by simp [Cl]) (by simp [Cl]) (hc f) (hc g) e
 ·intro e;injection e with e1 e2;rw [e2,e1]
end
section
open Go.RowKit Go.Shelf
attribute [local go_sem] Oper.semAt_some
structure TK (w:World) (g o:Nat) (r:ER):Prop where
 c0:w.cell? ⟨g,o,none⟩=some (.int .i64 r.head.rel)
 c1:w.cell? ⟨g,o+1,none⟩=some (.bool r.head.no)
 c2:w.cell? ⟨g,o+2,none⟩=some (.slice r.head.av r.head.L.length r.head.cap)
 c3:w.cell? ⟨g,o+3,none⟩=some (.slice r.ad r.body.length r.bc)
theorem TK.keeps {w w':World} {g o:Nat} {r:ER} {T:List Nat} (h:TK w g o r) (k:AA T w w') (hg:g∉T:=by simp):TK w' g o r:=⟨BV k h.c0 hg,BV k h.c1 hg,BV k h.c2 hg,BV k h.c3 hg⟩
structure Lx (w:World) (r:ER):Prop where
 head:Mc w r.head
 body:NI w r.ad r.body
theorem Lx.keeps {w w':World} {r:ER} (h:Lx w r) (k:AA [] w w'):Lx w' r:=⟨h.head.keeps k,h.body.keeps k⟩
def Je (w:World) (av:Option Addr) (rs:List ER):Prop:=∀ (i:Nat) (r:ER),rs[i]?=some r→Lx w r∧∃ g o,av=some ⟨g,o,none⟩∧TK w g (o+i * 4) r
theorem Je.keeps {w w':World} {av:Option Addr} {rs:List ER} (h:Je w av rs) (k:AA [] w w'):Je w' av rs:=fun i r hr=>by
 obtain ⟨a,g,o,e,b⟩:=h i r hr;exact ⟨a.keeps k,g,o,e,b.keeps k⟩
structure nQ (w:World) (g o:Nat) (f:Bc):Prop where
 c0:w.cell? ⟨g,o,none⟩=some (.int .i64 f.rel)
 c1:w.cell? ⟨g,o+1,none⟩=some (.slice f.av f.L.length f.cap)
structure Fh (w:World) (f:Bc):Prop where
 lo:-9223372036854775808≤f.rel
 hi:f.rel≤9223372036854775807
 ints:Io w f.av f.L
theorem Fh.keeps {w w':World} {f:Bc} (h:Fh w f) (k:AA [] w w'):Fh w' f:=⟨h.lo,h.hi,h.ints.keeps k⟩
def Eh (w:World) (av:Option Addr) (fs:List Bc):Prop:=∀ (i:Nat) (f:Bc),fs[i]?=some f→Fh w f∧∃ g o,av=some ⟨g,o,none⟩∧nQ w g (o+i * 2) f
theorem Eh.keeps {w w':World} {av:Option Addr} {fs:List Bc} (h:Eh w av fs) (k:AA [] w w'):Eh w' av fs:=fun i f hf=>by
 obtain ⟨a,g,o,e,b⟩:=h i f hf;exact ⟨a.keeps k,g,o,e,BV k b.c0,BV k b.c1⟩
def R5 (z:Nat) (nm:List UInt8) (rs:List ER):ByteArray:=ba (Ah (Jp z++rs.flatMap (Fm z nm false)))
def Xq (z:Nat) (nm:List UInt8) (rs:List ER) (fs:List Bc):ByteArray:=ba (Ah (EP z nm false rs fs))
theorem Y3 (z:Nat) (nm:List UInt8):ba (Ah (Jp z))=R5 z nm []:=by unfold R5;simp
theorem bT {z:Nat} {nm:List UInt8} {rs:List ER} {r:ER} (h:r.body≠[]):R5 z nm rs++ba (Ah (FU z nm r.head (r.body.take 4)))++ba [10]=R5 z nm (rs++[r]):=by
 have e:Fm z nm false r=FU z nm r.head (r.body.take 4)++[.nl]:=by
  unfold Fm;rw [if_neg (by simpa using h)];rfl
 unfold R5;rw [Dx,Dx,List.flatMap_append,BK,List.flatMap_nil,Be,e,←Ag,BQ (Jp z++_),BQ (FU z nm r.head (r.body.take 4)),Ag];rfl
theorem bU {z:Nat} {nm:List UInt8} {rs:List ER} {r:ER} (h:r.body=[]):R5 z nm rs=R5 z nm (rs++[r]):=by
 unfold R5;rw [List.flatMap_append,BK,List.flatMap_nil,Be];unfold Fm;rw [h];simp
theorem Y2 (z:Nat) (nm:List UInt8) (rs:List ER):R5 z nm rs=Xq z nm rs []:=by unfold R5 Xq EP;simp
theorem bR (z:Nat) (nm:List UInt8) (rs:List ER) (fs:List Bc) (f:Bc):Xq z nm rs fs++ba (Ah (EA (kOf f.rel) (Cl z f.L (kOf f.rel))))++ba [10]=Xq z nm rs (fs++[f]):=by
 unfold Xq EP;rw [Dx,Dx,List.flatMap_append,BK,List.flatMap_nil,Be,←Ag,BQ (_++fs.flatMap _)];unfold I6;rw [BQ (EA _ _),Ag];rfl
theorem Oj (z:Nat) (nm:List UInt8) (rs:List ER):(Ah (rs.flatMap (Fm z nm false))).length≤100 * rs.length:=by
 induction rs with
 | nil=>exact AS _
 | cons r rs ih=>
  rw [BK,BQ,AN,AV];have:=Qs z nm false r;omega
theorem Wt (z:Nat) (fs:List Bc):(Ah (fs.flatMap (I6 z))).length≤20 * fs.length:=by
 induction fs with
 | nil=>exact AS _
 | cons f fs ih=>
  rw [BK,BQ,AN,AV];have:(Ah (I6 z f)).length≤20:=by
   unfold I6;rw [BQ,AN];have h1:=RB (kOf f.rel) z f.L;have h2:(Ah [.nl]).length=1:=rfl;omega
  omega
theorem bS (z:Nat) (nm:List UInt8) (rs:List ER):(R5 z nm rs).size≤61+100 * rs.length:=by
 unfold R5;rw [D5,BQ,AN];have h1:=Oj z nm rs;have h2:(Ah (Jp z)).length=61:=rfl;omega
theorem UC (z:Nat) (nm:List UInt8) (rs:List ER) (fs:List Bc):(Xq z nm rs fs).size≤61+100 * rs.length+20 * fs.length:=by
 unfold Xq EP;rw [D5,BQ,BQ,AN,AN];have h1:=Oj z nm rs;have h3:=Wt z fs;have h2:(Ah (Jp z)).length=61:=rfl;omega
theorem N3 (w:World) {ra:Option Addr} {rs:List ER} {rc:Nat} (hrs:Je w ra rs) (hrl:rs.length≤10000000000000) {fa:Option Addr} {fs:List Bc} {fc:Nat} (hfs:Eh w fa fs) (hfl:fs.length≤10000000000000) {z:Nat} (hz:1≤z) (hz8:z≤8) {nm:List UInt8} (hn4:nm.length=4):Calls prog 20 #[.int .i64 (z:Int),.slice ra rs.length rc,.slice fa fs.length fc,.string (ba nm),.bool false] w fun e w'=>e=.returned (.string (ba (Ah (EP z nm false rs fs))))∧AA [] w w':=by
 have hru:=AD (fun (W:World) (k:AA [] w W) (r:ER) (hr:Lx w r)=>Rt (bc:=r.bc) W (hr.head.keeps k) (hr.body.keeps k) hz hz8 hn4);have hhd:=AD (SZ w (z:=z) (by omega));rw [Y3 z nm] at hhd;have hft:=AD (fun (W:World) (k:AA [] w W) (f:Bc) (hf:Fh w f)=>GE W (cap:=f.cap) hf.lo hf.hi (hf.ints.keeps k) hz hz8 (M3 f.rel) (HB f.rel));rw [show ba (Ah (EP z nm false rs fs))=Xq z nm rs fs from rfl];have Hrs:=AD hrs;have Hfs:=AD hfs;clear hrs hfs hn4;have e1:({ data:=#[10] }:ByteArray)=ba [10]:=rfl;go_in
 simp only [e1];clear e1;obtain ⟨t1,hp1⟩:∃ t,ba [10]=t:=⟨_,rfl⟩;rw [hp1];have s1:t1.size=1:=by rw [←hp1];rfl
 have P1:=AD hp1;clear hp1;generalize ba nm=NM at *;obtain ⟨R,hR⟩:∃ R,rs.length=R:=⟨_,rfl⟩;obtain ⟨F,hF⟩:∃ F,fs.length=F:=⟨_,rfl⟩;have HR:=AD hR;have HF:=AD hF;rw [hR] at hrl ⊢;rw [hF] at hfl ⊢;clear hR hF;go_wp2_with fail
 refine hhd.out.mono ?_;rintro e W1 ⟨rfl,e1⟩;subst e1;go_wp2_with fail
 go_loopw [11,12] (fun y q wr=>∃ (i:Nat),y=.string (R5 z nm (rs.take i))∧q=.int .i64 i∧i≤R∧AA [] W1 wr) (fun _ q _=>((R:Int) - intOf q).toNat)
 case atStart=>exact ⟨0,rfl,rfl,by omega,AA.refl _ _⟩
 case round=>
  obtain ⟨i,rfl,rfl,hi,hkw⟩:=hrel;have hszl:(rs.take i).length=i:=by rw [A5,Cv (by have:=HR.out;omega)]
  have hsz8:(R5 z nm (rs.take i)).size≤61+100 * i:=by have:=bS z nm (rs.take i);omega
  by_cases hin:i<R
  ·have hiI:(i:Int)<R:=(by omega);obtain ⟨r,hr⟩:∃ r,rs[i]?=some r:=⟨_,AB (by have:=HR.out;omega)⟩;obtain ⟨rok,g,o,had,hra⟩:=Hrs.out i r hr;subst had;have hr2:=hra.keeps hkw;have p0:=hr2.c0;have p1:=hr2.c1;have p2:=hr2.c2;have p3:=hr2.c3;have kC:=AA.alloc [] wr (.cells #[.int .i64 r.head.rel,.bool r.head.no,.slice r.head.av r.head.L.length r.head.cap,.slice r.ad r.body.length r.bc] 62);have hal:=AD (fun (W:World) (k:AA [] W1 W)=>hru.out W k r rok);have htk:rs.take (i+1)=rs.take i++[r]:=by rw [An,hr];rfl
   have G1:Hid (r.body≠[]→R5 z nm (rs.take i)++ba (Ah (FU z nm r.head (r.body.take 4)))++t1=R5 z nm (rs.take (i+1))):=AD (fun e=>by rw [htk,←P1.out];exact bT e);have G2:Hid (r.body=[]→R5 z nm (rs.take i)=R5 z nm (rs.take (i+1))):=AD (fun e=>by rw [htk];exact bU e);have KC:=AD (hkw.trans kC);have hq:=Qs z nm false r;have hq2:r.body≠[]→(ba (Ah (FU z nm r.head (r.body.take 4)))).size≤100:=fun e=>by
    unfold Fm at hq;rw [if_neg (by simpa using e),BQ,AN] at hq;rw [D5];exact Ai (Nat.le_add_right _ _) hq
   have Hq2:=AD hq2;obtain ⟨bl,hbl⟩:∃ bl,r.body.length=bl:=⟨_,rfl⟩;have Hbl:=AD hbl;rw [hbl] at p3 hal KC;clear hra hr2 hr kC htk hszl hq hq2 rok hbl;by_cases hb:r.body=[]
   ·have hbl:bl=0:=by rw [←Hbl.out,hb];rfl
    subst hbl;have Hg:=AD (G2.out hb);clear G1 G2 hal hb;go_wp2_with fail
    exact ⟨⟨i+1,by rw [←Hg.out],by simp,by omega,KC.out⟩,by simp only [intOf];omega⟩
   ·have hbl:(0:Int)<(bl:Int):=by have:=List.length_pos_iff.2 hb;have:=Hbl.out;omega
    have Hg:=AD (G1.out hb);have hq:=Hq2.out hb;clear G1 G2 hb Hq2;generalize ba (Ah (FU z nm r.head (r.body.take 4)))=tk at *;generalize R5 z nm (rs.take i)=tt at *;go_wp2_with fail
    refine (hal.out _ KC.out).mono ?_;rintro e W5 ⟨rfl,k5⟩;go_wp2_with fail
    exact ⟨⟨i+1,by rw [←Hg.out],by simp,by omega,KC.out.trans k5⟩,by simp only [intOf];omega⟩
  ·have hiI:¬ (i:Int)<R:=(by omega);have hiR:i=R:=(by omega);subst hiR;have hgt:rs.take i=rs:=by rw [BD (by have:=HR.out;omega)]
   rw [hgt];rw [hgt] at hsz8;clear hgt hszl hsz8;go_wp2_with fail
   rename World=>Wz;go_loopw [11,14] (fun y q wr=>∃ (j:Nat),y=.string (Xq z nm rs (fs.take j))∧q=.int .i64 j∧j≤F∧AA [] W1 wr) (fun _ q _=>((F:Int) - intOf q).toNat)
   case atStart=>exact ⟨0,by rw [Y2];rfl,rfl,by omega,hkw⟩
   case round=>
    obtain ⟨j,rfl,rfl,hj,hkr⟩:=hrel;have hszl:(fs.take j).length=j:=by rw [A5,Cv (by have:=HF.out;omega)]
    have hsz8:(Xq z nm rs (fs.take j)).size≤61+100 * i+20 * j:=by have:=UC z nm rs (fs.take j);rw [HR.out] at this;omega
    by_cases hjn:j<F
    ·have hjI:(j:Int)<F:=(by omega);obtain ⟨f,hf⟩:∃ f,fs[j]?=some f:=⟨_,AB (by have:=HF.out;omega)⟩;obtain ⟨fok,g,o,had,hfa⟩:=Hfs.out j f hf;subst had;have p0:=BV hkr hfa.c0;have p1:=BV hkr hfa.c1;have kC:=AA.alloc [] wr (.cells #[.int .i64 f.rel,.slice f.av f.L.length f.cap] 51);have hal:=AD (fun (W:World) (k:AA [] W1 W)=>hft.out W k f fok);have htk:fs.take (j+1)=fs.take j++[f]:=by rw [An,hf];rfl
     have Hg:Hid (Xq z nm rs (fs.take j)++ba (Ah (EA (kOf f.rel) (Cl z f.L (kOf f.rel))))++t1=Xq z nm rs (fs.take (j+1))):=AD (by rw [htk,←P1.out];exact bR z nm rs _ f);have hq:(ba (Ah (EA (kOf f.rel) (Cl z f.L (kOf f.rel))))).size≤12:=by rw [D5];exact RB _ _ _
     have KC:=AD (hkr.trans kC);obtain ⟨bl,hbl⟩:∃ bl,f.L.length=bl:=⟨_,rfl⟩;rw [hbl] at p1 hal KC;clear hfa hf kC htk hszl fok hbl;go_wp2_with fail
     refine (hal.out _ KC.out).mono ?_;rintro e W5 ⟨v5,rfl,_,k5⟩;generalize ba (Ah (EA (kOf f.rel) (Cl z f.L (kOf f.rel))))=tk at *;generalize Xq z nm rs (fs.take j)=tt at *;go_wp2_with fail
     exact ⟨⟨j+1,by rw [←Hg.out],by simp,by omega,KC.out.trans k5⟩,by simp only [intOf];omega⟩
    ·have hjI:¬ (j:Int)<F:=(by omega);have hjF:j=F:=(by omega);subst hjF;have hgt:fs.take j=fs:=by rw [BD (by have:=HF.out;omega)]
     rw [hgt];go_wp2_with fail
     go_ret
     exact ⟨rfl,hkr⟩
end
section
open Go.RowKit Go.Shelf
theorem PI {α:Type} {f:α→List Value} {n:Nat} (hf:∀ a,(f a).length=n):∀ {l:List α} {i:Nat} {a:α},l[i]?=some a→∀ {q:Nat},q<n→(l.flatMap f)[i * n+q]?=(f a)[q]?
 | [],_,_,h,_,_=>by simp at h
 | b :: l,0,a,h,q,hq=>by
  simp at h;subst h;rw [BK,D6,Ad,At (by rw [hf];exact hq)]
 | b :: l,i+1,a,h,q,hq=>by
  have ih:=PI hf (l:=l) (i:=i) (a:=a) (by simpa using h) hq;rw [BK,Aq (by rw [hf,D0];omega),hf,show (i+1) * n+q - n=i * n+q by rw [D0];omega];exact ih
def mY (l:Do):List Value:=[.int .i64 l.rel,.bool l.no,.slice l.av l.L.length l.cap]
def lN (r:ER):List Value:=[.int .i64 r.head.rel,.bool r.head.no,.slice r.head.av r.head.L.length r.head.cap,.slice r.ad r.body.length r.bc]
end
section
open Go.ChangeShapes Go.WideShapes Go.ChangeAt Go.RowKit
theorem TB:prog.cellsOf 3=1:=by kernel_rfl
theorem jZ:prog.cellsOf 4=1:=by kernel_rfl
theorem VL:prog.cellsOf 40=1:=by kernel_rfl
theorem VK:prog.cellsOf 51=2:=by kernel_rfl
theorem Pb:prog.cellsOf 59=3:=by kernel_rfl
theorem eQ:prog.cellsOf 60=1:=by kernel_rfl
theorem VJ:prog.cellsOf 62=4:=by kernel_rfl
theorem eX:prog.bytesOf 51=32:=by kernel_rfl
theorem eW:prog.bytesOf 59=40:=by kernel_rfl
theorem eV:prog.bytesOf 62=64:=by kernel_rfl
theorem GV {x:Int} (h:(Lit.int .i64 x).wf=true):-9223372036854775808≤x∧x≤9223372036854775807:=by
 simp [Lit.wf,IntKind.min,IntKind.max,IntKind.signed,IntKind.bits] at h;omega
section
variable {H:Type} {enc:TypeId×Value→H} {w:World}
def Small (t:TypeId) (d:DataW H):Prop:=∀ n∈d.weights prog t,n≤reachBytes
theorem NK {e:TypeId}:∀ {ds:List (DataW H)} {d:DataW H},d∈ds→∀ n∈d.weights prog e,n∈DataW.weightsAll prog e ds
 | x :: ds,d,hd,n,hn=>by
  simp only [DataW.weightsAll,AC];rcases AJ.1 hd with rfl | hd
  ·exact .inl hn
  ·exact .inr (NK hd n hn)
 | [],d,hd,_,_=>by cases hd
theorem choose_lt' {A:Type} [Inhabited A] {p:Nat→A→Prop} {len:Nat} (h:∀ i,i<len→∃ a,p i a):∃ L:Nat→A,∀ i,i<len→p i (L i):=
 ⟨fun i=>if hi:i<len then Classical.choose (h i hi) else default,fun i hi=>by
  simp only [dif_pos hi]
  exact Classical.choose_spec (h i hi)⟩
theorem OX {n:Nat} {v:Value} {x:DataW H×List MemPlace} (h:DataW.trod enc prog w 0 (fun _=>true) true n 40 [v]=some x):∃ av cap es,v=.slice av es.length cap∧Io w av es:=by
 rcases open_ints underlying40 underlying3 TB h with ⟨hc,_⟩ | ⟨a,len,cap,zs,hc,_,hl,_,hz,_,hcell,hwf⟩
 ·simp only [CM,and_true] at hc;exact ⟨none,0,[],hc,fun i x hx=>by simp at hx⟩
 ·simp only [CM,and_true] at hc;simp only [if_true] at hz;refine ⟨some a,cap,zs.take len,by rw [A5,Cv (by omega)];exact hc,fun i x hx=>?_⟩;rw [List.getElem?_take] at hx;split at hx
  ·rename_i hi;have hm:=AF hx;have:=GV (hwf x hm);refine ⟨this.1,this.2,a,rfl,?_⟩;rw [hcell i (by omega),Af,hx];rfl
  ·cases hx
theorem Rn {t e:TypeId} {c:Nat} (ht:prog.underlying t=some (.slice e)) (hc:prog.cellsOf e=c) (hc0:0<c) {A:Type} [Inhabited A] (V:A→List Value) (hV:∀ a,(V a).length=c) (Ok:A→Prop) (hel:∀ n cs x,Small e x.1→DataW.trod enc prog w 0 (fun _=>true) true n e cs=some x→∃ a,Ok a∧cs=V a) {n:Nat} {v:Value} {x:DataW H×List MemPlace} (h:DataW.trod enc prog w 0 (fun _=>true) true n t [v]=some x) (hs:Small t x.1):∃ ad cap,∃ l:List A,v=.slice ad l.length cap∧(∀ a∈l,Ok a)∧l.length * prog.bytesOf e≤reachBytes∧∀ (i:Nat) (a:A),l[i]?=some a→∃ g o,ad=some ⟨g,o,none⟩∧∀ f u,(V a)[f]?=some u→w.cell? ⟨g,o+i * c+f,none⟩=some u:=by
 rcases Deep.open_slice ht h with ⟨hv,_⟩ | ⟨a,len,cap,m,n',D,Pl,hv,_,hl,hm,hmm,hx,hcs⟩
 ·simp only [CM,and_true] at hv;exact ⟨none,0,[],hv,by simp,by simp,by simp⟩
 ·simp only [CM,and_true] at hv;subst hx;have hlm:len≤m:=by simp only [if_true] at hmm;omega
  have hw0:(((List.range len).map D).length+((List.range (m - len)).map fun j=>D (len+j)).length) * prog.bytesOf e≤reachBytes:=hs _ (by simp [DataW.weights,ht])
  have hwi:∀ i,i<len→Small e (D i):=fun i hi k hk=>hs k (by
   simp only [DataW.weights,ht]
   exact AO _ (AC.2 (.inl (NK (AR.2 ⟨i,CH.2 hi,rfl⟩) k hk))))
  have hone:∀ i,i<len→∃ y:A,Ok y∧∀ f,f<c→w.cell? ((a.add (i * c)).add f)=(V y)[f]?:=fun i hi=>by
   obtain ⟨cs',h1,h2⟩:=hcs i (by omega);obtain ⟨y,hy,e1⟩:=hel n' cs' (D i,Pl i) (hwi i hi) h2;subst e1;rw [hc] at h1;exact ⟨y,hy,(World.cells?_some h1).2.2⟩
  obtain ⟨L,hL⟩:=choose_lt' hone;refine ⟨some a,cap,(List.range len).map L,by rw [AZ,List.length_range];exact hv,fun y hy=>?_,?_,fun i y hy=>?_⟩
  ·obtain ⟨i,hi,rfl⟩:=AR.1 hy;exact (hL i (CH.1 hi)).1
  ·refine Ai (Nat.mul_le_mul_right _ ?_) hw0;simp
  ·rw [AX] at hy;have hi:i<len:=by
    rcases BL i len with q | q
    ·exact q
    ·rw [Ac (by simpa using q)] at hy;cases hy
   rw [Cu hi] at hy;simp at hy;subst hy;have h0:∃ u,(V (L i))[0]?=some u:=⟨_,AB (by rw [hV];exact hc0)⟩;have hsp:a.spot=none:=by
    obtain ⟨u,hu⟩:∃ u,(V (L 0))[0]?=some u:=⟨_,AB (by rw [hV];exact hc0)⟩;have h1:=(hL 0 (by omega)).2 0 hc0;rw [hu] at h1;simp only [D6,Addr.add,if_true] at h1;unfold World.cell? at h1;split at h1
    ·split at h1
     ·cases h1
     ·rename_i q;simpa using q
    ·cases h1
   obtain ⟨g,o,sp⟩:=a;dsimp only at hsp;subst hsp;refine ⟨g,o,rfl,fun f u hu=>?_⟩;have hf:f<c:=by have:=(AL.1 hu).1;rw [hV] at this;exact this
   have h1:=(hL i hi).2 f hf;rw [hu,Addr.add_lit,Addr.add_lit] at h1;exact h1
instance:Inhabited Do:=⟨⟨0,false,none,[],0⟩⟩
instance:Inhabited ER:=⟨⟨default,none,[],0⟩⟩
instance:Inhabited Bc:=⟨⟨0,none,[],0⟩⟩
theorem Ua {n:Nat} {cs:List Value} {x:DataW H×List MemPlace} (h:DataW.trod enc prog w 0 (fun _=>true) true n 59 cs=some x):∃ l:Do,Mc w l∧cs=mY l:=by
 obtain ⟨xs,k,hk,hxy,hlen,hxl,hf⟩:=DataW.trod_struct underlying59 h;rw [Pb] at hlen;match xs,hxl,cs,hlen with
 | [y0,y1,y2],_,[v0,v1,v2],_=>
  have g0:=hf 0 _ rfl;have g1:=hf 1 _ rfl;have g2:=hf 2 _ rfl;simp [TB,jZ,VL] at g0 g1 g2;obtain ⟨z0,e0,_,hw0⟩:=DataW.trod_int underlying3 g0;obtain ⟨b1,e1,_⟩:=DataW.trod_bool underlying4 g1;obtain ⟨av,cap,es,e2,hes⟩:=OX g2;simp only [CM,and_true] at e0 e1;subst e0 e1 e2;exact ⟨⟨z0,b1,av,es,cap⟩,⟨(GV hw0).1,(GV hw0).2,hes⟩,rfl⟩
theorem ZJ {n:Nat} {v:Value} {x:DataW H×List MemPlace} (h:DataW.trod enc prog w 0 (fun _=>true) true n 60 [v]=some x) (hs:Small 60 x.1):∃ ad cap,∃ ls:List Do,v=.slice ad ls.length cap∧NI w ad ls∧ls.length * 40≤140737488355328:=by
 obtain ⟨ad,cap,l,h1,h2,h3,h4⟩:=Rn underlying60 Pb (by decide) mY (fun _=>rfl) (Mc w) (fun n cs x _ hx=>Ua hx) h hs;refine ⟨ad,cap,l,h1,fun i a ha=>⟨h2 a (AF ha),?_⟩,?_⟩
 ·obtain ⟨g,o,e,hc⟩:=h4 i a ha;exact ⟨g,o,e,hc 0 _ rfl,hc 1 _ rfl,hc 2 _ rfl⟩
 ·rw [eW] at h3;exact Ai h3 (by decide)
theorem Yp {n:Nat} {cs:List Value} {x:DataW H×List MemPlace} (hs:Small 62 x.1) (h:DataW.trod enc prog w 0 (fun _=>true) true n 62 cs=some x):∃ r:ER,(Lx w r∧r.body.length * 40≤140737488355328)∧cs=lN r:=by
 obtain ⟨xs,k,hk,hxy,hlen,hxl,hf⟩:=DataW.trod_struct underlying62 h;rw [VJ] at hlen;match xs,hxl,cs,hlen with
 | [y0,y1],_,[v0,v1,v2,v3],_=>
  have g0:=hf 0 _ rfl;have g1:=hf 1 _ rfl;simp [Pb,eQ] at g0 g1;obtain ⟨l,hl,e0⟩:=Ua g0
  have hs1:Small 60 y1.1:=fun m hm=>hs m (by
   rw [hxy];simp only [DataW.weights,underlying62]
   simp [DataW.weightsEach,hm])
  obtain ⟨ad,cap,ls,e1,h1,h2⟩:=ZJ g1 hs1;unfold mY at e0;simp only [CM,and_true] at e0;obtain ⟨rfl,rfl,rfl⟩:=e0;subst e1;exact ⟨⟨l,ad,ls,cap⟩,⟨⟨hl,h1⟩,h2⟩,rfl⟩
theorem Vz {n:Nat} {v:Value} {x:DataW H×List MemPlace} (h:DataW.trod enc prog w 0 (fun _=>true) true n 42 [v]=some x) (hs:Small 42 x.1):∃ ad cap,∃ rs:List ER,v=.slice ad rs.length cap∧Je w ad rs∧rs.length * 64≤140737488355328∧∀ r∈rs,r.body.length * 40≤140737488355328:=by
 obtain ⟨ad,cap,l,h1,h2,h3,h4⟩:=Rn underlying42 VJ (by decide) lN (fun _=>rfl) (fun r=>Lx w r∧r.body.length * 40≤140737488355328) (fun n cs x hx hy=>Yp hx hy) h hs;refine ⟨ad,cap,l,h1,fun i a ha=>⟨(h2 a (AF ha)).1,?_⟩,?_,fun r hr=>(h2 r hr).2⟩
 ·obtain ⟨g,o,e,hc⟩:=h4 i a ha;exact ⟨g,o,e,hc 0 _ rfl,hc 1 _ rfl,hc 2 _ rfl,hc 3 _ rfl⟩
 ·rw [eV] at h3;exact Ai h3 (by decide)
def Gc (f:Bc):List Value:=[.int .i64 f.rel,.slice f.av f.L.length f.cap]
theorem Zh {n:Nat} {cs:List Value} {x:DataW H×List MemPlace} (h:DataW.trod enc prog w 0 (fun _=>true) true n 51 cs=some x):∃ f:Bc,Fh w f∧cs=Gc f:=by
 obtain ⟨xs,k,hk,hxy,hlen,hxl,hf⟩:=DataW.trod_struct underlying51 h;rw [VK] at hlen;match xs,hxl,cs,hlen with
 | [y0,y1],_,[v0,v1],_=>
  have g0:=hf 0 _ rfl;have g1:=hf 1 _ rfl;simp [TB,VL] at g0 g1;obtain ⟨z0,e0,_,hw0⟩:=DataW.trod_int underlying3 g0;obtain ⟨av,cap,es,e2,hes⟩:=OX g1;simp only [CM,and_true] at e0;subst e0 e2;exact ⟨⟨z0,av,es,cap⟩,⟨(GV hw0).1,(GV hw0).2,hes⟩,rfl⟩
theorem PN {n:Nat} {v:Value} {x:DataW H×List MemPlace} (h:DataW.trod enc prog w 0 (fun _=>true) true n 43 [v]=some x) (hs:Small 43 x.1):∃ ad cap,∃ fs:List Bc,v=.slice ad fs.length cap∧Eh w ad fs∧fs.length≤10000000000000:=by
 obtain ⟨ad,cap,l,h1,h2,h3,h4⟩:=Rn underlying43 VK (by decide) Gc (fun _=>rfl) (Fh w) (fun n cs x _ hx=>Zh hx) h hs;refine ⟨ad,cap,l,h1,fun i a ha=>⟨h2 a (AF ha),?_⟩,?_⟩
 ·obtain ⟨g,o,e,hc⟩:=h4 i a ha;exact ⟨g,o,e,hc 0 _ rfl,hc 1 _ rfl⟩
 ·rw [eX] at h3;have:reachBytes≤140737488355328:=by decide
  omega
end
end
section
open Go.RowKit Go.Shelf
attribute [local go_sem] Oper.semAt_some
def DA (hs:List Bc):List Value:=hs.flatMap Gc
theorem Jb (hs:List Bc) (f:Bc):DA (hs++[f])=DA hs++Gc f:=by simp [DA]
def Ww (f:Bc):Value:=.agg #[.int .i64 f.rel,.slice f.av f.L.length f.cap]
theorem Kt {W:World} {b:Nat} {ad:Option Addr} {hs:List Bc} {c:Nat} (h:W.ownsRow b 51 2 (.slice ad hs.length c) hs.length (DA hs)) (hl:∀ f∈hs,Fh W f):Eh W ad hs:=fun i f hi=>by
 have hil:=(AL.1 hi).1;obtain ⟨g,rfl⟩:=Eu h (by omega);have at_:∀ q v,q<2→(Gc f)[q]?=some v→W.cell? ⟨g,i * 2+q,none⟩=some v:=fun q v hq hv=>BI h (by rw [DA,PI (n:=2) (fun _=>rfl) hi hq];exact hv);refine ⟨hl f (AF hi),g,0,rfl,?_⟩;rw [Ad];exact ⟨at_ 0 _ (by omega) rfl,at_ 1 _ (by omega) rfl⟩
theorem Ja (W:World) (f:Bc) (t:TypeId):∀ (j:Nat) (u:Value),(Gc f)[j]?=some u→(W.alloc (.cells #[.int .i64 f.rel,.slice f.av f.L.length f.cap] t)).cell? ((⟨W.heap.size,0,none⟩:Addr).add j)=some u:=by
 intro j u hu;rw [Addr.add_lit,Ad,(AM.new W _ t).cell];match j with
 | 0=>simpa [Gc] using hu
 | 1=>simpa [Gc] using hu
 | j+2=>simp [Gc] at hu
theorem dO:(prog.info? 51).map (fun i=>(i.zero,i.size,i.bytes))=some (some (.agg #[.int .i64 0,.slice none 0 0]),2,32):=by kernel_rfl
theorem lC {z:Nat} {hs:List Bc} {f h:Bc} {i:Nat} (h1:TR z (hs.take i) f=none) (h2:hs[i]?=some h) (h3:fk z h=fk z f):TR z hs f=some i:=by
 have hi:=(AL.1 h2).1;refine B7.2 ⟨hi,?_,fun j hj hx=>?_⟩
 ·rw [(AL.1 h2).2];simpa using h3
 ·have:=Bu.1 h1 hs[j] (by rw [List.mem_take_iff_getElem];exact ⟨j,by omega,rfl⟩);rw [this] at hx;cases hx
theorem fH {z:Nat} {hs:List Bc} {f h:Bc} {i:Nat} (h1:TR z (hs.take i) f=none) (h2:hs[i]?=some h) (h3:¬ fk z h=fk z f):TR z (hs.take (i+1)) f=none:=by
 refine Bu.2 fun g hg=>?_;rw [An,h2] at hg;rcases AC.1 hg with hg | hg
 ·exact Bu.1 h1 g hg
 ·simp at hg;subst hg;simpa using h3
theorem QU (w:World) {a b:Bc} (ha:Fh w a) (hb:Fh w b) {z:Nat} (hz:1≤z) (h8:z≤8):Calls prog 45 #[Ww a,Ww b,.int .i64 (z:Int)] w fun e w'=>e=.returned (.bool (decide (fk z a=fk z b)))∧AA [] w w':=by
 have k1:=AA.alloc [] w (.cells #[.int .i64 a.rel,.slice a.av a.L.length a.cap] 51);have k2:=AA.alloc [] (w.alloc (.cells #[.int .i64 a.rel,.slice a.av a.L.length a.cap] 51)) (.cells #[.int .i64 b.rel,.slice b.av b.L.length b.cap] 51);have ca:=(AM.new w #[.int .i64 a.rel,.slice a.av a.L.length a.cap] 51).keeps k2;have cb:=AM.new (w.alloc (.cells #[.int .i64 a.rel,.slice a.av a.L.length a.cap] 51)) #[.int .i64 b.rel,.slice b.av b.L.length b.cap] 51;rw [AY] at cb;have a0:=ca.cell 0;have a1:=ca.cell 1;simp at a0 a1;have k12:=k1.trans k2;have hfa:=AD (fun (W:World) (k:AA [] w W)=>GE W (cap:=a.cap) ha.lo ha.hi (ha.ints.keeps k) hz h8 (M3 a.rel) (HB a.rel));have hfb:=AD (fun (W:World) (k:AA [] w W)=>GE W (cap:=b.cap) hb.lo hb.hi (hb.ints.keeps k) hz h8 (M3 b.rel) (HB b.rel));have hsame:=Zg hz h8 a b;obtain ⟨sa,hsa⟩:∃ s,ba (Ah (EA (kOf a.rel) (Cl z a.L (kOf a.rel))))=s:=⟨_,rfl⟩;obtain ⟨sb,hsb⟩:∃ s,ba (Ah (EA (kOf b.rel) (Cl z b.L (kOf b.rel))))=s:=⟨_,rfl⟩;rw [hsa,hsb] at hsame;have Hsame:=AD hsame;have Hsa:=AD hsa;have Hsb:=AD hsb;have K12:=AD k12;have Cb:=AD cb;clear hsame hsa hsb k12 cb ca k1 k2 ha hb;unfold Ww;go_in
 go_wp2_with fail
 refine (hfa.out _ K12.out).mono ?_;rintro e W1 ⟨v1,rfl,_,k1⟩;have b0:=(Cb.out.keeps k1).cell 0;have b1:=(Cb.out.keeps k1).cell 1;simp at b0 b1;have K1:=AD (K12.out.trans k1);clear k1 a0 a1;go_wp2_with fail
 refine (hfb.out _ K1.out).mono ?_;rintro e W2 ⟨v2,rfl,_,k2⟩;have K2:=AD (K1.out.trans k2);clear k2 b0 b1;rw [Hsa.out,Hsb.out];go_wp2_with fail
 go_ret
 refine ⟨congrArg (fun b=>Ending.returned (.bool b)) ?_,K2.out⟩;show (sa.toList == sb.toList)=_;rw [Bn,Rh,Hsame.out];simp
def fG (z:Nat) (hs:List Bc) (f:Bc):Int:=match TR z hs f with | some i=>(i:Int) | none=>-1
theorem LU (w:World) {av:Option Addr} {hs:List Bc} {c:Nat} (hhs:Eh w av hs) (hl:hs.length≤10000000000000) {f:Bc} (hf:Fh w f) {z:Nat} (hz:1≤z) (h8:z≤8):Calls prog 25 #[.slice av hs.length c,Ww f,.int .i64 (z:Int)] w fun e w'=>e=.returned (.int .i64 (fG z hs f))∧AA [] w w':=by
 have k1:=AA.alloc [] w (.cells #[.int .i64 f.rel,.slice f.av f.L.length f.cap] 51);have hfc:=AM.new w #[.int .i64 f.rel,.slice f.av f.L.length f.cap] 51;have heq:=AD (fun (W:World) (k:AA [] w W) (g:Bc) (hg:Fh w g)=>QU W (hg.keeps k) (hf.keeps k) hz h8);obtain ⟨n,hn⟩:∃ n,hs.length=n:=⟨_,rfl⟩;have Hn:=AD hn;have Hhs:=AD hhs;have K1:=AD k1;have Hfc:=AD hfc;rw [hn] at hl ⊢;clear k1 hfc hhs hf hn;unfold Ww at heq ⊢;go_in
 go_wp2_with fail
 go_loopw [7] (fun q wk=>∃ (i:Nat),q=.int .i64 i∧i≤n∧Hid (TR z (hs.take i) f=none∧AA [] (w.alloc (.cells #[.int .i64 f.rel,.slice f.av f.L.length f.cap] 51)) wk)) (fun q _=>((n:Int) - intOf q).toNat)
 case atStart=>exact ⟨0,rfl,CP _,AD ⟨rfl,AA.refl _ _⟩⟩
 case round=>
  obtain ⟨i,rfl,hi,hI⟩:=hrel;by_cases hin:i<n
  ·have hiI:(i:Int)<n:=(by omega);obtain ⟨g,hg⟩:∃ g,hs[i]?=some g:=⟨_,AB (by have:=Hn.out;omega)⟩;obtain ⟨gok,gb,o,hav,hga⟩:=Hhs.out i g hg;subst hav;have Kw:=AD (K1.out.trans hI.out.2);have p0:=BV Kw.out hga.c0;have p1:=BV Kw.out hga.c1;have cf:=Hfc.out.keeps hI.out.2;have f0:=cf.cell 0;have f1:=cf.cell 1;simp at f0 f1;have hq:=AD (fun (W:World) (k:AA [] wr W)=>heq.out W (Kw.out.trans k) g gok);have Hg:=AD hg;clear hg hga cf gok;go_wp2_with fail
   refine Ex 6 (by kernel_rfl) (by kernel_rfl) ?_;simp only [Bs,Ca,Bi,BM];repeat (go_big_quiet_step (fail))
   refine wpQuiet_nil ?_;go_wp2_with fail
   refine (hq.out _ (AA.drew [] wr)).mono ?_;rintro e W2 ⟨rfl,k2⟩;have K2:=AD ((hI.out.2.trans (AA.drew [] wr)).trans k2);clear k2 p0 p1 f0 f1;by_cases he:fk z g=fk z f
   ·rw [decide_eq_true he];have Hm:=AD (lC hI.out.1 Hg.out he);clear he;go_wp2_with fail
    go_ret
    exact ⟨by unfold fG;rw [Hm.out];rfl,K1.out.trans K2.out⟩
   ·rw [decide_eq_false he];have Hm:=AD (fH hI.out.1 Hg.out he);clear he;go_wp2_with fail
    exact ⟨⟨i+1,by simp,by omega,AD ⟨Hm.out,K2.out⟩⟩,by simp only [intOf];omega⟩
  ·have hiI:¬ (i:Int)<n:=(by omega);have hm:=hI.out.1;rw [BD (by have:=Hn.out;omega)] at hm;have Hm:=AD hm;clear hm;go_wp2_with fail
   go_ret
   exact ⟨by unfold fG;rw [Hm.out];rfl,K1.out.trans hI.out.2⟩
theorem jT (z:Nat) (fs:List Bc):(dst z fs).length≤fs.length:=by
 have:=(I7 (z:=z) fs [] (by simp [Dy])).2.2.1;simpa [dst] using this
theorem jS {z:Nat} {fs:List Bc} {g:Bc} (h:g∈dst z fs):g∈fs:=((I7 (z:=z) fs [] (by simp [Dy])).2.2.2 g h).elim (fun x=>by cases x) id
theorem NB (w:World) {av:Option Addr} {hs:List Bc} {c:Nat} (hhs:Eh w av hs) (hl:hs.length≤100) {z:Nat} (hz:1≤z) (h8:z≤8):Calls prog 23 #[.slice av hs.length c,.int .i64 (z:Int)] w fun e w'=>(∃ v,e=.returned v∧w'.ownsRow w.heap.size 51 2 v (dst z hs).length (DA (dst z hs)))∧AA [] w w':=by
 obtain ⟨i51,hi51,hza0,hza1,hza2⟩:=info_parts dO;have ham:=AD (fun (W:World) (k:AA [] w W) (ad:Option Addr) (ds:List Bc) (dc:Nat) (hds:Eh W ad ds) (hdl:ds.length≤100) (f:Bc) (hf:Fh w f)=>LU (c:=dc) W hds (by omega) (hf.keeps k) hz h8);unfold Ww at ham;obtain ⟨n,hn⟩:∃ n,hs.length=n:=⟨_,rfl⟩;have Hn:=AD hn;have Hhs:=AD hhs;rw [hn] at hl ⊢;clear hhs hn;go_in
 go_wp2_with fail
 go_loopw [5,6] (fun x q wk=>∃ (i:Nat),q=.int .i64 i∧i≤n∧Hid (wk.ownsRow w.heap.size 51 2 x (dst z (hs.take i)).length (DA (dst z (hs.take i)))∧AA [] w wk)) (fun _ q _=>((n:Int) - intOf q).toNat)
 case atStart=>exact ⟨0,rfl,CP _,AD ⟨World.ownsRow_nil ..,AA.refl _ _⟩⟩
 case round=>
  obtain ⟨i,rfl,hi,hI⟩:=hrel;obtain ⟨xa,xc,hxv⟩:=Aj hI.out.1;obtain ⟨D,hD⟩:∃ D,(dst z (hs.take i)).length=D:=⟨_,rfl⟩;have hD100:D≤100:=by
   have:=jT z (hs.take i);rw [A5] at this;omega
  have HD:=AD hD;rw [hD] at hxv;subst hxv;clear hD;by_cases hin:i<n
  ·have hiI:(i:Int)<n:=(by omega);obtain ⟨g,hg⟩:∃ g,hs[i]?=some g:=⟨_,AB (by have:=Hn.out;omega)⟩;obtain ⟨gok,gb,o,hav,hga⟩:=Hhs.out i g hg;subst hav;have p0:=BV hI.out.2 hga.c0;have p1:=BV hI.out.2 hga.c1
   have hfi:Eh wr xa (dst z (hs.take i)):=Kt (c:=xc) (by rw [HD.out];have:=hI.out.1;rw [HD.out] at this;exact this) (fun f hf=>by
    have hm:=Cj (jS hf);obtain ⟨j,hj⟩:=DC hm
    exact (Hhs.out j f hj).1.keeps hI.out.2)
   have hq:=AD (ham.out wr hI.out.2 xa (dst z (hs.take i)) xc hfi (by rw [HD.out];exact hD100) g gok);rw [HD.out] at hq;have Hg:=AD (AU hg (eG z hs hg));have Hga:=AD hga;clear hg hga gok hfi;go_wp2_with fail
   refine hq.out.mono ?_;rintro e W2 ⟨rfl,k2⟩;have K2:=AD (hI.out.2.trans k2);have Hr2:=AD (AI hI.out.1 k2);rw [HD.out] at Hr2;have p0:=BV K2.out Hga.out.c0;have p1:=BV K2.out Hga.out.c1;clear k2 hq;cases hm:TR z (dst z (hs.take i)) g with
   | some j=>
    have hj:¬ ((j:Nat):Int)<0:=(by omega);have hv:fG z (dst z (hs.take i)) g=(j:Int):=by unfold fG;rw [hm]
    have Hd:Hid (dst z (hs.take (i+1))=dst z (hs.take i)):=AD (by rw [Hg.out.2,jU,hm,if_neg (by simp)]);rw [hv];clear hm hv;go_wp2_with fail
    exact ⟨⟨i+1,by simp,by omega,AD ⟨by rw [Hd.out,HD.out];exact Hr2.out,K2.out⟩⟩,by simp only [intOf];omega⟩
   | none=>
    have Hd:Hid (dst z (hs.take (i+1))=dst z (hs.take i)++[g]):=AD (by rw [Hg.out.2,jU,hm,if_pos rfl]);have hv:fG z (dst z (hs.take i)) g = -1:=by unfold fG;rw [hm]
    rw [hv];clear hm hv;have kA:=AA.alloc [] W2 (.cells #[.int .i64 g.rel,.slice g.av g.L.length g.cap] 51);have hrow:=AD (AI Hr2.out kA);have hone:=AD (Ja W2 g 51);have hbase:w.heap.size≤(W2.alloc (.cells #[.int .i64 g.rel,.slice g.av g.L.length g.cap] 51)).heap.size:=(K2.out.trans kA).size;have KA:=AD (K2.out.trans kA);clear kA;go_wp2_with (at_builtin;refine wpList_append_own_at _ rfl _ _ 43 rfl w.heap.size 51 i51 (.agg #[.int .i64 0,.slice none 0 0]) 2 32 underlying43 hi51 hza0 hza1 hza2 rfl (by decide) _ D _ rfl hrow.out ⟨W2.heap.size,0,none⟩ 1 1 _ rfl (by rfl) hone.out (by simp [Gc,Value.oneCell']) (by unfold maxLen;omega) (by omega) hbase ?_)
    intro v6 W6 hown6 hgrow6 hnil6 hat6;have k6:=grownBy_keeps' hgrow6 (Aa (.slice xa D xc)) (fun r e=>.inl (by simp [Aa,e]));have Hfin:Hid (W6.ownsRow w.heap.size 51 2 v6 (dst z (hs.take (i+1))).length (DA (dst z (hs.take (i+1))))∧AA [] w W6):=AD ⟨by rw [Hd.out,Jb,AN,HD.out];exact hown6,KA.out.trans_new k6 (fun j hj=>.inr (Am hrow.out j (by simpa [Aa] using hj)).1)⟩;clear hown6 hgrow6 hnil6 hat6 k6;obtain ⟨va,vc,hvv⟩:=Aj Hfin.out.1;subst hvv;go_wp2_with fail
    exact ⟨⟨i+1,by simp,by omega,Hfin⟩,by simp only [intOf];omega⟩
  ·have hiI:¬ (i:Int)<n:=(by omega);have hr:=hI.out.1;rw [BD (by have:=Hn.out;omega)] at hr;have ht:dst z (hs.take i)=dst z hs:=by rw [BD (by have:=Hn.out;omega)]
   rw [←ht,HD.out,ht] at hr;have Hr:=AD hr;clear hr ht;go_wp2_with fail
   go_ret
   exact ⟨⟨_,rfl,by rw [←BD (l:=hs) (i:=i) (by have:=Hn.out;omega),HD.out,BD (by have:=Hn.out;omega)];exact Hr.out⟩,hI.out.2⟩
theorem Q6 {w:World} (s:ByteArray) (hs:s.size≤9223372036854775807) {f:J5} (hr:EE s=.error f):Calls prog 21 #[.string s] w fun e w'=>e=.returned (.pointer none)∧AA [] w w':=by
 have hld:=AD (Mx (w:=w) s hs (fun t m' h=>by rw [hr] at h;cases h));rw [hr] at hld;have hl2:Hid (Calls prog 16 #[.string s] w fun e w'=>(∃ F1 F2:Int,e=.returned (.tuple #[.pointer none,.agg #[.int .i64 F1,.int .i64 F2]]))∧AA [] w w'):=AD (hld.out.mono (fun e w' h=>⟨⟨_,_,h.1⟩,h.2⟩));clear hr hld;go_in
 go_wp2_with fail
 refine hl2.out.mono ?_;rintro e W1 ⟨⟨F1,F2,rfl⟩,k1⟩;have kF:=AA.alloc [] W1 (.cells #[.int .i64 0,.int .i64 0] 28);have hF:=AM.new W1 #[.int .i64 0,.int .i64 0] 28;have zF:=AY W1 (.cells #[.int .i64 0,.int .i64 0] 28);have kG:=AD (k1.trans (AA.alloc [] W1 (.cells #[.int .i64 F1,.int .i64 F2] 28)));clear kF hF zF k1;by_cases h0:F1=0
 ·subst h0;go_wp2_with fail
  go_ret
  exact ⟨rfl,kG.out⟩
 ·go_wp2_with fail
  go_ret
  exact ⟨rfl,kG.out⟩
theorem hZ {W:World} {g n:Nat} {l:List Nat} (h:Kj W g n l) (hl:l.length=n):Bt W g (J2 l):=by
 obtain ⟨cs,h1,h2⟩:=h;refine ⟨cs,⟨_,h1⟩,fun i x hx=>?_⟩;unfold J2 at hx;rw [AX] at hx;cases hq:l[i]? with
 | none=>rw [hq] at hx;cases hx
 | some y=>
  rw [hq] at hx;simp at hx;subst hx;have hi:=(AL.1 hq).1;have:=h2.2 i (by omega);rw [this];show some (Value.int .i64 ((l.getD i 0:Nat):Int))=_;rw [Af,hq];rfl
structure WasQ where
 k:Nat
 t:List Nat
 b:Nat
 r:Nat
section
variable {b0 z:Nat} {rk:Nat→List Nat→Option Nat} {WE:World} {lo hi n:Nat} {lv:Value} {xs:List (List Nat×Nat)} {W W':World} {x y o:Value} {nx ny no:Nat} {cx cy co:List Value} {ws:List WasQ}
end
theorem EM.rsok {w:World} {z bb:Nat} {B:SB} {S:ST} {gr cr:Nat} {rs:List A9} {tv mv:Value} {ka:Option Addr} {ks:List CluX} {kc:Nat} {m:Mean} {vals:List Nat} {Fs:Nat→List Nat→Prop} {rk:Nat→List Nat→Option Nat} (h:EM w z bb B S gr cr rs tv mv ka ks kc m vals Fs rk):XU m vals rs:=⟨h.len,fun i r hi=>by
  have hil:=(AL.1 hi).1;obtain ⟨nm,cols,hc⟩:∃ nm cols,m.rels[i]?=some (nm,cols):=⟨_,_,AB (by rw [←h.len];exact hil)⟩;obtain ⟨a,b,_⟩:=h.rels i r nm cols hi hc
  exact ⟨by rw [a];simp [Mean.cols,hc],b⟩⟩
end
end Go.Proofs.YtgjomknpjigkhaaGreatDoor
