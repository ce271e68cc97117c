import Derived.Test.YtgjomknpjigkhaaGreatDoorU34
namespace Go.Proofs.YtgjomknpjigkhaaGreatDoor
open Go.Proofs.Tryz
set_option maxRecDepth 100000
set_option maxHeartbeats 4000000
section
open Go.RowKit
attribute [local go_sem] Oper.semAt_some
def relP3 (n:List UInt8) (s:Pc):List Pc:=[.t .rel,.sp,nmP n,.t .lp,nmP [100],.t .comma,.sp,nmP [100],.t .comma,.sp,nmP [100],.t .rp,.t .semi,s]
def headG (z:Nat):List Pc:=domP z++relP1 [97] .sp++relP2 [98] .sp++relP2 [99] .sp++relP3 [116] .nl
def rest41:List UInt8:=[59,32,114,101,108,32,97,40,100,41,59,32,114,101,108,32,98,40,100,44,32,100,41,59,32,114,101,108,32,99,40,100,44,32,100,41,59,32,114,101,108,32,116,40,100,44,32,100,44,32,100,41,59,10]
theorem headG_bytes (z:Nat):ba [100,111,109,32,100,32]++dgB z++ba rest41=ba (jQA (headG z)):=by
 unfold dgB;rw [gQD,gQD];rfl
theorem head41_calls (w:World) {z:Nat} (hz:z<10):Calls prog 41 #[.int .i64 (z:Int)] w fun e w'=>e=.returned (.string (ba (jQA (headG z))))∧w' = w:=by
 have hit:=hide (fun (W:World)=>pQK (z:Int) (by omega) (by omega) W);rw [decG_dg hz] at hit;have hb:=headG_bytes z;have e0:({ data:=#[100,111,109,32,100,32] }:ByteArray)=ba [100,111,109,32,100,32]:=rfl;have e1:({ data:=#[59,32,114,101,108,32,97,40,100,41,59,32,114,101,108,32,98,40,100,44,32,100,41,59,32,114,101,108,32,99,40,100,44,32,100,41,59,32,114,101,108,32,116,40,100,44,32,100,44,32,100,41,59,10] }:ByteArray)=ba rest41:=rfl;have s0:(ba [100,111,109,32,100,32]).size=6:=rfl;have s1:(ba rest41).size=54:=rfl;have s2:=dgB_size z;go_enter func41,ntmps41
 simp only [e0,e1];generalize ba [100,111,109,32,100,32]=t0 at *;generalize ba rest41=t1 at *;generalize dgB z=tz at *;have Hb:=hide hb;clear hb e0 e1;go_wp2_with fail
 refine (hit.out _).mono ?_;rintro e w1 ⟨rfl,e1⟩;have e2:=e1.symm;subst e2;go_wp2_with fail
 go_ret
 exact ⟨by rw [Hb.out];rfl,rfl⟩
end
section
open Go.RowKit
structure RawL where
 rel:Int
 no:Bool
 av:Option Addr
 L:List Int
 cap:Nat
structure RawR where
 head:RawL
 ad:Option Addr
 body:List RawL
 bc:Nat
structure RawF where
 rel:Int
 av:Option Addr
 L:List Int
 cap:Nat
def kOf (x:Int):Nat:=(pk3 x 4).toNat
theorem kOf_lt (x:Int):kOf x<4:=by have:=mQE x (n:=4) (by decide);unfold kOf;omega
theorem kOf_eq (x:Int):pk3 x 4=(kOf x:Int):=by have:=mQE x (n:=4) (by decide);unfold kOf;omega
theorem nQF (k:Nat):1≤relK k∧relK k≤3:=by unfold relK;split <;> omega
def termW (z:Nat) (nm:List UInt8) (x:Int):Sg:=if x<0 then .var (ba [nm.getD (pk3 x 4).toNat 0]) else .int (dgB (pk3 x z).toNat)
def yQF (z:Nat) (nm:List UInt8) (L:List Int) (k:Nat):List Sg:=(List.range (relK k)).map (fun i=>termW z nm (L.getD i 0))
def kQI (gs:List Sg):List Pc:=gs.flatMap (fun g=>[.t .comma,.sp,.t g])
def termsP:List Sg→List Pc
 | []=>[]
 | g :: gs=>.t g :: kQI gs
def atomO (k:Nat) (gs:List Sg):List Pc:=nmP (relB k) :: .t .lp :: termsP gs
def dQF (z:Nat) (nm:List UInt8) (l:RawL):List Pc:=atomO (kOf l.rel) (yQF z nm l.L (kOf l.rel))++[.t .rp]
def litP (z:Nat) (nm:List UInt8) (l:RawL):List Pc:=(if l.no then [.t .bang] else [])++dQF z nm l
def pQF (z:Nat) (nm:List UInt8) (ls:List RawL):List Pc:=ls.flatMap (fun l=>[.t .comma,.sp]++litP z nm l)
def dQJ (z:Nat) (nm:List UInt8):List RawL→List Pc
 | []=>[]
 | l :: ls=>[.sp,.t .arrow,.sp]++litP z nm l++pQF z nm ls
def sQH (z:Nat) (nm:List UInt8) (h:RawL) (ls:List RawL):List Pc:=dQF z nm h++dQJ z nm ls++[.t .dot]
theorem rQJ {g:Sg} {ps:List Pc} (h1:tokOk g=true) (h2:sepOk g (ltr (ba (jQA ps)) 0)=true) (h3:okP ps=true):okP (.t g :: ps)=true:=by
 simp [okP,h1,h2,h3]
def TmG (g:Sg):Prop:=zQA g=true∧tokOk g=true
theorem TmG.sep {g:Sg} (h:TmG g) {x:Int} (hx:x=41∨x=44):sepOk g x=true:=by
 obtain ⟨h1,_⟩:=h;cases g <;> first | (rcases hx with rfl | rfl <;> rfl) | (simp [zQA] at h1)
theorem tailP_ok:∀ (gs:List Sg),(∀ g∈gs,TmG g)→∀ {r:List Pc},okP r=true→ltr (ba (jQA r)) 0=41→okP (kQI gs++r)=true∧(ltr (ba (jQA (kQI gs++r))) 0=41∨ltr (ba (jQA (kQI gs++r))) 0=44)
 | [],_,_,h1,h2=>⟨h1,.inl h2⟩
 | g :: gs,hg,r,h1,h2=>by
  obtain ⟨a,b⟩:=tailP_ok gs (fun x hx=>hg x (by simp [hx])) h1 h2;have e:kQI (g :: gs)++r=.t .comma :: .sp :: .t g :: (kQI gs++r):=by simp [kQI]
  rw [e];exact ⟨rQJ rfl rfl (rQJ (hg g (by simp)).2 ((hg g (by simp)).sep b) a),.inr (sQB 44 _)⟩
theorem atomO_ok {k:Nat} {gs:List Sg} (hg:∀ g∈gs,TmG g) {r:List Pc} (h1:okP r=true):okP (atomO k gs++.t .rp :: r)=true:=by
 have h2:okP (.t .rp :: r)=true:=rQJ rfl rfl h1;have h3:ltr (ba (jQA (.t .rp :: r))) 0=41:=sQB 41 _;have hn:∀ q:List Pc,okP q=true→okP (nmP (relB k) :: .t .lp :: q)=true:=fun q hq=>rQJ (by unfold relB;split <;> rfl) (by rw [show ltr (ba (jQA (.t .lp :: q))) 0=40 from sQB 40 _];rfl) (rQJ rfl rfl hq);cases gs with
 | nil=>exact hn _ h2
 | cons g gs=>
  obtain ⟨a,b⟩:=tailP_ok gs (fun x hx=>hg x (by simp [hx])) h2 h3;exact hn _ (rQJ (hg g (by simp)).2 ((hg g (by simp)).sep b) a)
def NmOk (nm:List UInt8):Prop:=nm.length=4∧∀ b∈nm,cQH (cI b)=true
theorem termW_ok {z:Nat} (h1:1≤z) (h8:z≤8) {nm:List UInt8} (hn:NmOk nm) (x:Int):TmG (termW z nm x):=by
 unfold termW;split
 ·refine ⟨rfl,?_⟩;have:=mQE x (n:=4) (by decide);show cQH (cI (nm.getD (pk3 x 4).toNat 0))=true;rw [List.getD_eq_getElem?_getD,List.getElem?_eq_getElem (by rw [hn.1];omega)];exact hn.2 _ (List.getElem_mem _)
 ·refine ⟨rfl,tokOk_dg ?_⟩;have:=mQE x (n:=(z:Int)) (by omega);omega
theorem termsW_ok {z:Nat} (h1:1≤z) (h8:z≤8) {nm:List UInt8} (hn:NmOk nm) (L:List Int) (k:Nat):∀ g∈yQF z nm L k,TmG g:=fun g hg=>by
 obtain ⟨i,_,rfl⟩:=List.mem_map.1 hg;exact termW_ok h1 h8 hn _
section
variable {z:Nat} (h1:1≤z) (h8:z≤8) {nm:List UInt8} (hn:NmOk nm)
include h1 h8 hn
theorem atomP_ok (l:RawL) {r:List Pc} (hr:okP r=true):okP (dQF z nm l++r)=true:=by
 unfold dQF;rw [List.append_assoc];exact atomO_ok (termsW_ok h1 h8 hn _ _) hr
theorem litP_ok (l:RawL) {r:List Pc} (hr:okP r=true):okP (litP z nm l++r)=true:=by
 unfold litP;split
 ·exact rQJ rfl rfl (atomP_ok h1 h8 hn l hr)
 ·exact atomP_ok h1 h8 hn l hr
theorem moreP_ok:∀ (ls:List RawL) {r:List Pc},okP r=true→okP (pQF z nm ls++r)=true
 | [],_,hr=>hr
 | l :: ls,r,hr=>by
  have e:pQF z nm (l :: ls)++r=.t .comma :: .sp :: (litP z nm l++(pQF z nm ls++r)):=by simp [pQF]
  rw [e];exact rQJ rfl rfl (litP_ok h1 h8 hn l (moreP_ok ls hr))
theorem ruleP_ok (h:RawL) (ls:List RawL) {r:List Pc} (hr:okP r=true):okP (sQH z nm h ls++r)=true:=by
 unfold sQH;have hd:okP (.t .dot :: r)=true:=rQJ rfl rfl hr;rw [List.append_assoc,List.append_assoc];refine atomP_ok h1 h8 hn h ?_;cases ls with
 | nil=>exact hd
 | cons l ls=>
  have e:dQJ z nm (l :: ls)++([.t .dot]++r)=.sp :: .t .arrow :: .sp :: (litP z nm l++(pQF z nm ls++.t .dot :: r)):=by simp [dQJ]
  rw [e];exact rQJ rfl rfl (litP_ok h1 h8 hn l (moreP_ok h1 h8 hn ls hd))
end
theorem numsP_ok:∀ (l:List Nat),(∀ a∈l,a<10)→∀ {r:List Pc},okP r=true→ltr (ba (jQA r)) 0=41→okP (nQG l++r)=true
 | [],_,_,h1,_=>h1
 | [a],h,r,h1,h2=>by
  rw [show nQG [a]++r=.t (.int (dgB a)) :: r from rfl];exact rQJ (tokOk_dg (h a (by simp))) (by rw [h2];rfl) h1
 | a :: b :: l,h,r,h1,h2=>by
  have:=numsP_ok (b :: l) (fun x hx=>h x (by simp [hx])) h1 h2;rw [show nQG (a :: b :: l)++r=.t (.int (dgB a)) :: .t .comma :: (nQG (b :: l)++r) from rfl];refine rQJ (tokOk_dg (h a (by simp))) ?_ (rQJ rfl rfl this);rw [show ltr (ba (jQA (.t .comma :: (nQG (b :: l)++r)))) 0=44 from sQB 44 _];rfl
theorem factP_ok (k:Nat) {l:List Nat} (h:∀ a∈l,a<10) {r:List Pc} (hr:okP r=true):okP (jQH k l++r)=true:=by
 have h2:okP (.t .rp :: .t .dot :: r)=true:=rQJ rfl rfl (rQJ rfl rfl hr);have e:jQH k l++r=nmP (relB k) :: .t .lp :: (nQG l++.t .rp :: .t .dot :: r):=by simp [jQH,factO]
 rw [e];refine rQJ (by unfold relB;split <;> rfl) ?_ (rQJ rfl rfl (numsP_ok l h h2 (sQB 41 _)));rw [show ltr (ba (jQA (.t .lp :: (nQG l++.t .rp :: .t .dot :: r)))) 0=40 from sQB 40 _];rfl
def jQL (l:Nat) (gs:List Sg):List Tn:=gs.flatMap (fun g=>[⟨.comma,l⟩,⟨g,l⟩])
theorem tailP_line (gs:List Sg) (l:Nat):kQD (kQI gs) l=l:=flat_line (fun _ _=>rfl) gs l
theorem tailP_toks:∀ (gs:List Sg) (l:Nat),fQB (kQI gs) l=jQL l gs
 | [],_=>rfl
 | g :: gs,l=>by
  show ⟨.comma,l⟩ :: ⟨g,l⟩ :: fQB (kQI gs) l=_;rw [tailP_toks gs l];rfl
theorem numsP_toks:∀ (a:Nat) (bs:List Nat) (l:Nat),fQB (nQG (a :: bs)) l=⟨.int (dgB a),l⟩ :: jQL l (bs.map (fun b=>.int (dgB b)))
 | a,[],l=>rfl
 | a,b :: bs,l=>by
  show ⟨.int (dgB a),l⟩ :: ⟨.comma,l⟩ :: fQB (nQG (b :: bs)) l=_;rw [numsP_toks b bs l];rfl
theorem numsP_line:∀ (bs:List Nat) (l:Nat),kQD (nQG bs) l=l
 | [],_=>rfl
 | [_],_=>rfl
 | _ :: b :: bs,l=>numsP_line (b :: bs) l
theorem restG_tail {l:Nat}:∀ (gs:List Sg) (k:Nat) (us:List Tn),gs.length<k→(∀ g∈gs,zQA g=true)→bQG zQA k (jQL l gs++⟨.rp,l⟩ :: us)=.ok (gs.map (fun g=>⟨g,l⟩),us)
 | [],k+1,us,_,_=>rfl
 | g :: gs,k+1,us,hk,hg=>by
  have ih:=restG_tail (l:=l) gs k us (by simpa using hk) (fun x hx=>hg x (by simp [hx]));have e:jQL l (g :: gs)++⟨.rp,l⟩ :: us=⟨.comma,l⟩ :: ⟨g,l⟩ :: (jQL l gs++⟨.rp,l⟩ :: us):=by simp [jQL]
  rw [e,bQG,if_pos (show sees _ _=true from rfl)];show (match (if zQA g=true then (Except.ok (⟨g,l⟩,jQL l gs++⟨.rp,l⟩ :: us):Except Nat (Tn×List Tn)) else .error l) with | .error l=>_ | .ok (t,us)=>_)=_;rw [if_pos (hg g (by simp))];dsimp only;rw [ih];rfl
def atomI (l k:Nat) (gs:List Sg):dQE:=⟨⟨.name (ba (relB k)),l⟩,gs.map (fun g=>⟨g,l⟩)⟩
theorem atomG_of {l k:Nat} {g:Sg} {gs:List Sg} (hg:∀ x∈g :: gs,zQA x=true) (us:List Tn):gQI (⟨.name (ba (relB k)),l⟩ :: ⟨.lp,l⟩ :: ⟨g,l⟩ :: (jQL l gs++⟨.rp,l⟩ :: us))=.ok (atomI l k (g :: gs),us):=by
 have hr:=restG_tail (l:=l) gs (jQL l gs++⟨.rp,l⟩ :: us).length us (by
  have:gs.length≤(jQL l gs).length:=by
   unfold jQL;induction gs with
   | nil=>simp
   | cons x gs ih=>have:=ih (fun y hy=>hg y (by simp only [List.mem_cons] at hy ⊢;exact hy.imp id .inr));simp only [List.flatMap_cons,List.length_append,List.length_cons,List.length_nil];omega
  simp only [List.length_append,List.length_cons];omega) (fun x hx=>hg x (by simp [hx]))
 have e:aQH zQA (⟨.lp,l⟩ :: ⟨g,l⟩ :: (jQL l gs++⟨.rp,l⟩ :: us))=.ok ((g :: gs).map (fun g=>⟨g,l⟩),us):=by
  unfold aQH;show (match (if zQA g=true then (Except.ok (⟨g,l⟩,jQL l gs++⟨.rp,l⟩ :: us):Except Nat (Tn×List Tn)) else .error l) with | .error l=>_ | .ok (t,us)=>_)=_;rw [if_pos (hg g (by simp))];dsimp only;rw [hr];rfl
 unfold gQI;show (match aQH zQA (⟨.lp,l⟩ :: ⟨g,l⟩ :: (jQL l gs++⟨.rp,l⟩ :: us)) with | .error l=>_ | .ok (r,vs)=>_)=_;rw [e];rfl
theorem atomP_line (z:Nat) (nm:List UInt8) (a:RawL) (l:Nat):kQD (dQF z nm a) l=l:=by
 unfold dQF;rw [uQB];show kQD (termsP _) l=l;cases yQF z nm a.L (kOf a.rel) with
 | nil=>rfl
 | cons g gs=>exact tailP_line gs l
theorem uQJ (z:Nat) (nm:List UInt8) (a:RawL) (l:Nat):kQD (litP z nm a) l=l:=by
 unfold litP;rw [uQB,atomP_line];split <;> rfl
theorem moreP_line (z:Nat) (nm:List UInt8) (ls:List RawL) (l:Nat):kQD (pQF z nm ls) l=l:=flat_line (fun a l=>by rw [uQB];exact uQJ z nm a l) ls l
theorem bodyP_line (z:Nat) (nm:List UInt8) (ls:List RawL) (l:Nat):kQD (dQJ z nm ls) l=l:=by
 cases ls with
 | nil=>rfl
 | cons a ls=>
  rw [dQJ,uQB,uQB,moreP_line];exact uQJ z nm a l
theorem ruleP_line (z:Nat) (nm:List UInt8) (h:RawL) (ls:List RawL) (l:Nat):kQD (sQH z nm h ls) l=l:=by
 unfold sQH;rw [uQB,uQB,atomP_line,bodyP_line];rfl
def atomW (z:Nat) (nm:List UInt8) (l:Nat) (a:RawL):dQE:=atomI l (kOf a.rel) (yQF z nm a.L (kOf a.rel))
def litW (z:Nat) (nm:List UInt8) (l:Nat) (a:RawL):LitI:=⟨atomW z nm l a,a.no⟩
def ruleW (z:Nat) (nm:List UInt8) (l:Nat) (h:RawL) (ls:List RawL):vQB:=.clause (atomW z nm l h) (ls.map (litW z nm l))
def factW (l k:Nat) (bs:List Nat):vQB:=.clause (atomI l k (bs.map (fun a=>.int (dgB a)))) []
theorem termsW_term (z:Nat) (nm:List UInt8) (L:List Int) (k:Nat):∀ g∈yQF z nm L k,zQA g=true:=fun g hg=>by
 obtain ⟨i,_,rfl⟩:=List.mem_map.1 hg;unfold termW;split <;> rfl
theorem termsW_pos (z:Nat) (nm:List UInt8) (L:List Int) (k:Nat):∃ g gs,yQF z nm L k=g :: gs:=by
 cases h:yQF z nm L k with
 | nil=>
  have:(yQF z nm L k).length=relK k:=by simp [yQF]
  rw [h] at this;have:=(nQF k).1;simp at *;omega
 | cons g gs=>exact ⟨g,gs,rfl⟩
theorem atomP_G (z:Nat) (nm:List UInt8) (a:RawL) (l:Nat) (us:List Tn):gQI (fQB (dQF z nm a) l++us)=.ok (atomW z nm l a,us):=by
 have ht:=termsW_term z nm a.L (kOf a.rel);obtain ⟨g,gs,e⟩:=termsW_pos z nm a.L (kOf a.rel);rw [e] at ht;have:=atomG_of (l:=l) (k:=kOf a.rel) ht us;unfold atomW dQF;rw [e,dQB];show gQI ((⟨.name (ba (relB (kOf a.rel))),l⟩ :: ⟨.lp,l⟩ :: ⟨g,l⟩ :: fQB (kQI gs) l)++[⟨.rp,kQD (kQI gs) l⟩]++us)=_;rw [tailP_line,tailP_toks];simpa using this
theorem atomP_first (z:Nat) (nm:List UInt8) (a:RawL) (l:Nat):∃ ts,fQB (dQF z nm a) l=⟨.name (ba (relB (kOf a.rel))),l⟩ :: ts:=⟨_,rfl⟩
theorem litP_G (z:Nat) (nm:List UInt8) (a:RawL) (l:Nat) (us:List Tn):litG (fQB (litP z nm a) l++us)=.ok (litW z nm l a,us):=by
 unfold litP litG litW;have h:=atomP_G z nm a l us;cases hn:a.no with
 | true=>
  simp only [if_true];rw [show fQB ([.t .bang]++dQF z nm a) l++us=⟨.bang,l⟩ :: (fQB (dQF z nm a) l++us) from rfl,if_pos (show sees _ _=true from rfl)];simp only [List.tail_cons];rw [h]
 | false=>
  obtain ⟨ts,e⟩:=atomP_first z nm a l;simp only [Bool.false_eq_true,if_false,List.nil_append];rw [if_neg (by rw [e];exact Bool.false_ne_true),h]
theorem litsG_more (z:Nat) (nm:List UInt8) (l:Nat) (us:List Tn):∀ (ls:List RawL) (k:Nat),ls.length<k→tQK k (fQB (pQF z nm ls) l++⟨.dot,l⟩ :: us)=.ok (ls.map (litW z nm l),us)
 | [],k+1,_=>rfl
 | a :: ls,k+1,hk=>by
  have ih:=litsG_more z nm l us ls k (by simpa using hk);have e:fQB (pQF z nm (a :: ls)) l++⟨.dot,l⟩ :: us=⟨.comma,l⟩ :: (fQB (litP z nm a) l++(fQB (pQF z nm ls) l++⟨.dot,l⟩ :: us)):=by
   rw [show pQF z nm (a :: ls)=[.t .comma,.sp]++(litP z nm a++pQF z nm ls) by simp [pQF],dQB,dQB];rw [show kQD [.t .comma,.sp] l=l from rfl,uQJ];simp [fQB]
  rw [e,tQK,if_pos (show sees _ _=true from rfl)];simp only [List.tail_cons];rw [litP_G];dsimp only;rw [ih];rfl
theorem moreP_len (z:Nat) (nm:List UInt8) (l:Nat):∀ ls:List RawL,ls.length≤(fQB (pQF z nm ls) l).length
 | []=>Nat.zero_le _
 | a :: ls=>by
  have ih:=moreP_len z nm l ls;rw [show pQF z nm (a :: ls)=[.t .comma,.sp]++(litP z nm a++pQF z nm ls) by simp [pQF],dQB,dQB,show kQD [.t .comma,.sp] l=l from rfl,uQJ];simp only [List.length_append,List.length_cons,fQB,List.length_nil];omega
theorem ruleP_items (z:Nat) (nm:List UInt8) (h:RawL) (ls:List RawL) (l:Nat) (us:List Tn):wQA (fQB (sQH z nm h ls) l++us) [ruleW z nm l h ls] us:=by
 obtain ⟨ts,e0⟩:=atomP_first z nm h l;have hA:=atomP_G z nm h l (fQB (dQJ z nm ls) l++⟨.dot,l⟩ :: us);have e1:fQB (sQH z nm h ls) l++us=fQB (dQF z nm h) l++(fQB (dQJ z nm ls) l++⟨.dot,l⟩ :: us):=by
  unfold sQH;rw [dQB,dQB,uQB,atomP_line,bodyP_line];simp [fQB]
 have hB:eQJ (fQB (dQJ z nm ls) l++⟨.dot,l⟩ :: us)=.ok (ls.map (litW z nm l),us):=by
  cases ls with
  | nil=>rfl
  | cons a ls=>
   have hm:=litsG_more z nm l us ls (fQB (pQF z nm ls) l++⟨.dot,l⟩ :: us).length (by have:=moreP_len z nm l ls;simp only [List.length_append,List.length_cons];omega);have e:fQB (dQJ z nm (a :: ls)) l++⟨.dot,l⟩ :: us=⟨.arrow,l⟩ :: (fQB (litP z nm a) l++(fQB (pQF z nm ls) l++⟨.dot,l⟩ :: us)):=by
    rw [dQJ,List.append_assoc,dQB,dQB,show kQD [.sp,.t .arrow,.sp] l=l from rfl,uQJ];simp [fQB]
   rw [e,eQJ,if_pos (show sees _ _=true from rfl)];simp only [List.tail_cons];rw [litP_G];dsimp only;rw [hm];rfl
 refine wQA.one ?_ (by rw [e1,e0];rfl);rw [e1,sQI,if_neg (by rw [e0];exact Bool.false_ne_true),if_neg (by rw [e0];exact Bool.false_ne_true),hA];dsimp only;rw [hB];rfl
theorem factP_items (k a:Nat) (bs:List Nat) (l:Nat) (us:List Tn):wQA (fQB (jQH k (a :: bs)) l++us) [factW l k (a :: bs)] us:=by
 have e1:fQB (jQH k (a :: bs)) l++us=⟨.name (ba (relB k)),l⟩ :: ⟨.lp,l⟩ :: ⟨.int (dgB a),l⟩ :: (jQL l (bs.map (fun b=>.int (dgB b)))++⟨.rp,l⟩ :: ⟨.dot,l⟩ :: us):=by
  unfold jQH factO;rw [dQB];show (⟨.name (ba (relB k)),l⟩ :: ⟨.lp,l⟩ :: fQB (nQG (a :: bs)) l)++[⟨.rp,kQD (nQG (a :: bs)) l⟩,⟨.dot,kQD (nQG (a :: bs)) l⟩]++us=_;rw [numsP_toks,numsP_line];simp
 have hA:=atomG_of (l:=l) (k:=k) (g:=.int (dgB a)) (gs:=bs.map (fun b=>.int (dgB b))) (fun x hx=>by
  simp only [List.mem_cons,List.mem_map] at hx
  rcases hx with rfl | ⟨_,_,rfl⟩ <;> rfl) (⟨.dot,l⟩ :: us)
 refine wQA.one ?_ (by rw [e1];rfl);rw [e1,sQI,if_neg (by exact Bool.false_ne_true),if_neg (by exact Bool.false_ne_true),hA];rfl
end
section
open Go.RowKit
def yQK (back:Bool) (r:RawR):List RawL:=if back then (r.body.take 4).reverse else r.body.take 4
def lQI (z:Nat) (nm:List UInt8) (back:Bool) (r:RawR):List Pc:=if r.body.isEmpty then [] else sQH z nm r.head (yQK back r)++[.nl]
def factQ (z:Nat) (f:RawF):List Pc:=jQH (kOf f.rel) (jQE z f.L (kOf f.rel))++[.nl]
def oQF (z:Nat) (nm:List UInt8) (back:Bool) (rs:List RawR) (fs:List RawF):List Pc:=headG z++rs.flatMap (lQI z nm back)++fs.flatMap (factQ z)
def vQK (z:Nat) (nm:List UInt8) (back:Bool):List RawR→Nat→List vQB
 | [],_=>[]
 | r :: rs,l=>if r.body.isEmpty then vQK z nm back rs l else ruleW z nm l r.head (yQK back r) :: vQK z nm back rs (l+1)
def factsI (z:Nat):List RawF→Nat→List vQB
 | [],_=>[]
 | f :: fs,l=>factW l (kOf f.rel) (jQE z f.L (kOf f.rel)) :: factsI z fs (l+1)
theorem colsOf_pos (z:Nat) (L:List Int) (k:Nat):∃ a bs,jQE z L k=a :: bs:=by
 cases h:jQE z L k with
 | nil=>
  have:(jQE z L k).length=relK k:=by simp [jQE]
  rw [h] at this;have:=(nQF k).1;simp at *;omega
 | cons g gs=>exact ⟨g,gs,rfl⟩
theorem factP_line (k:Nat) (bs:List Nat) (l:Nat):kQD (jQH k bs) l=l:=by
 unfold jQH factO;rw [uQB];exact numsP_line bs l
theorem mQL (z:Nat) (nm:List UInt8) (back:Bool):∀ (rs:List RawR) (l:Nat) (us:List Tn),wQA (fQB (rs.flatMap (lQI z nm back)) l++us) (vQK z nm back rs l) us
 | [],_,us=>wQA.nil us
 | r :: rs,l,us=>by
  rw [List.flatMap_cons,vQK,lQI];split
  ·exact mQL z nm back rs l us
  ·rw [dQB,dQB,uQB,ruleP_line,List.append_assoc];show wQA (fQB (sQH z nm r.head (yQK back r)) l++[]++(fQB (rs.flatMap (lQI z nm back)) (l+1)++us)) _ us;rw [List.append_nil];exact (ruleP_items z nm r.head (yQK back r) l _).trans (is:=[_]) (mQL z nm back rs (l+1) us)
theorem facts_items (z:Nat):∀ (fs:List RawF) (l:Nat) (us:List Tn),wQA (fQB (fs.flatMap (factQ z)) l++us) (factsI z fs l) us
 | [],_,us=>wQA.nil us
 | f :: fs,l,us=>by
  obtain ⟨a,bs,e⟩:=colsOf_pos z f.L (kOf f.rel);rw [List.flatMap_cons,factsI,factQ,dQB,dQB,uQB,factP_line,List.append_assoc,e];show wQA (fQB (jQH (kOf f.rel) (a :: bs)) l++[]++(fQB (fs.flatMap (factQ z)) (l+1)++us)) _ us;rw [List.append_nil];exact (factP_items (kOf f.rel) a bs l _).trans (is:=[_]) (facts_items z fs (l+1) us)
def headJ (z:Nat):List vQB:=[.dom (dT 1) ⟨.int (dgB z),1⟩,.rel ⟨.name (ba [97]),1⟩ [dT 1],.rel ⟨.name (ba [98]),1⟩ [dT 1,dT 1],.rel ⟨.name (ba [99]),1⟩ [dT 1,dT 1],.rel ⟨.name (ba [116]),1⟩ [dT 1,dT 1,dT 1]]
theorem headG_items (z:Nat) (us:List Tn):wQA (fQB (headG z) 1++us) (headJ z) us:=by
 refine wQA.trans (is:=[_]) (wQA.one (us:=fQB (relP1 [97] .sp++relP2 [98] .sp++relP2 [99] .sp++relP3 [116] .nl) 1++us) rfl rfl) ?_;refine wQA.trans (is:=[_]) (wQA.one (us:=fQB (relP2 [98] .sp++relP2 [99] .sp++relP3 [116] .nl) 1++us) rfl rfl) ?_;refine wQA.trans (is:=[_]) (wQA.one (us:=fQB (relP2 [99] .sp++relP3 [116] .nl) 1++us) rfl rfl) ?_;refine wQA.trans (is:=[_]) (wQA.one (us:=fQB (relP3 [116] .nl) 1++us) rfl rfl) ?_;exact wQA.one rfl rfl
theorem headG_line (z l:Nat):kQD (headG z) l=l+1:=rfl
theorem headG_ok {z:Nat} (h1:1≤z) (h8:z≤8):okP (headG z)=true:=by
 have:z=1∨z=2∨z=3∨z=4∨z=5∨z=6∨z=7∨z=8:=by omega
 rcases this with rfl | rfl | rfl | rfl | rfl | rfl | rfl | rfl <;> rfl
def progI (z:Nat) (nm:List UInt8) (back:Bool) (rs:List RawR) (fs:List RawF):List vQB:=headJ z++vQK z nm back rs 2++factsI z fs (kQD (rs.flatMap (lQI z nm back)) 2)
theorem prog_items (z:Nat) (nm:List UInt8) (back:Bool) (rs:List RawR) (fs:List RawF) (us:List Tn):wQA (fQB (oQF z nm back rs fs) 1++us) (progI z nm back rs fs) us:=by
 unfold oQF progI;rw [dQB,dQB,uQB,headG_line,List.append_assoc,List.append_assoc];exact ((headG_items z _).trans (mQL z nm back rs 2 _)).trans (facts_items z fs _ us)
theorem prog_ok {z:Nat} (h1:1≤z) (h8:z≤8) {nm:List UInt8} (hn:NmOk nm) (back:Bool) (rs:List RawR) (fs:List RawF):okP (oQF z nm back rs fs)=true:=by
 have hf:∀ fs:List RawF,okP (fs.flatMap (factQ z))=true:=fun fs=>by
  induction fs with
  | nil=>rfl
  | cons f fs ih=>
   rw [List.flatMap_cons,factQ,List.append_assoc];refine factP_ok _ (fun a ha=>?_) ih;obtain ⟨i,_,rfl⟩:=List.mem_map.1 ha;have:=colOf_lt h1 f.L i;omega
 have hr:∀ (rs:List RawR) (q:List Pc),okP q=true→okP (rs.flatMap (lQI z nm back)++q)=true:=fun rs q hq=>by
  induction rs with
  | nil=>exact hq
  | cons r rs ih=>
   rw [List.flatMap_cons,lQI];split
   ·exact ih
   ·rw [List.append_assoc,List.append_assoc];exact ruleP_ok h1 h8 hn _ _ ih
 unfold oQF;rw [List.append_assoc];exact okP_app _ _ (headG_ok h1 h8) rfl (hr rs _ (hf fs))
theorem nQL (z:Nat) (nm:List UInt8) (back:Bool):∀ (rs:List RawR) (l:Nat),(vQK z nm back rs l).length≤(fQB (rs.flatMap (lQI z nm back)) l).length
 | [],_=>Nat.le_refl _
 | r :: rs,l=>by
  rw [List.flatMap_cons,vQK,lQI];split
  ·exact nQL z nm back rs l
  ·rw [dQB,dQB,uQB,ruleP_line];have:=nQL z nm back rs (l+1);show (vQK z nm back rs (l+1)).length+1≤(fQB (sQH z nm r.head (yQK back r)) l++[]++fQB (rs.flatMap (lQI z nm back)) (l+1)).length;have h2:1≤(fQB (sQH z nm r.head (yQK back r)) l).length:=Nat.le_add_left 1 _;simp only [List.length_append,List.length_nil];omega
theorem facts_count (z:Nat):∀ (fs:List RawF) (l:Nat),(factsI z fs l).length≤(fQB (fs.flatMap (factQ z)) l).length
 | [],_=>Nat.le_refl _
 | f :: fs,l=>by
  rw [List.flatMap_cons,factsI,factQ,dQB,dQB,uQB,factP_line];have:=facts_count z fs (l+1);show (factsI z fs (l+1)).length+1≤(fQB (jQH (kOf f.rel) (jQE z f.L (kOf f.rel))) l++[]++fQB (fs.flatMap (factQ z)) (l+1)).length;have h2:1≤(fQB (jQH (kOf f.rel) (jQE z f.L (kOf f.rel))) l).length:=Nat.le_add_left 1 _;simp only [List.length_append,List.length_nil];omega
theorem prog_count (z:Nat) (nm:List UInt8) (back:Bool) (rs:List RawR) (fs:List RawF):(progI z nm back rs fs).length≤(fQB (oQF z nm back rs fs) 1).length:=by
 unfold oQF progI;rw [dQB,dQB,uQB,headG_line,show 1+1=2 from rfl];have h1:=nQL z nm back rs 2;have h2:=facts_count z fs (kQD (rs.flatMap (lQI z nm back)) 2);have h3:(headJ z).length≤(fQB (headG z) 1).length:=Nat.le_of_ble_eq_true rfl;simp only [List.length_append] at h1 h2 ⊢;omega
theorem prog_read {z:Nat} (h1:1≤z) (h8:z≤8) {nm:List UInt8} (hn:NmOk nm) {back:Bool} {rs:List RawR} {fs:List RawF} {toks:List Tn} {m:Mean} (hR:pQE (ba (jQA (oQF z nm back rs fs)))=.ok (toks,m)):xQB pQH (progI z nm back rs fs)=.ok m:=by
 have hs:=mQF (oQF z nm back rs fs) (jQA (oQF z nm back rs fs)).length 1 (prog_ok h1 h8 hn back rs fs) (Nat.le_refl _);have hi:=prog_items z nm back rs fs [⟨.fin,kQD (oQF z nm back rs fs) 1⟩];have hc:=prog_count z nm back rs fs;unfold pQE at hR;split at hR
 ·cases hR
 rw [eQD,hs] at hR;dsimp only at hR;have hq:(oQB (fQB (oQF z nm back rs fs) 1) (kQD (oQF z nm back rs fs) 1)).length=((fQB (oQF z nm back rs fs) 1).length - (progI z nm back rs fs).length+1)+(progI z nm back rs fs).length:=by
  simp only [oQB,List.length_append,List.length_cons,List.length_nil];omega
 have e1:zQC (oQB (fQB (oQF z nm back rs fs) 1) (kQD (oQF z nm back rs fs) 1)).length (oQB (fQB (oQF z nm back rs fs) 1) (kQD (oQF z nm back rs fs) 1))=.ok (progI z nm back rs fs):=by
  rw [hq];unfold oQB;rw [hi];have e2:∀ q,zQC (q+1) [⟨.fin,kQD (oQF z nm back rs fs) 1⟩]=.ok []:=fun q=>rfl;rw [e2];simp
 rw [e1] at hR;dsimp only at hR;cases hS:xQB pQH (progI z nm back rs fs) with
 | error f=>rw [hS] at hR;cases hR
 | ok me=>
  rw [hS] at hR;dsimp only at hR;cases hL:laterS me with
  | error f=>rw [hL] at hR;cases hR
  | ok _=>rw [hL] at hR;cases hR;rfl
def relsW:List (ByteArray×List Nat):=[(ba [97],[0]),(ba [98],[0,0]),(ba [99],[0,0]),(ba [116],[0,0,0])]
def baseM (z:Nat) (cs:List iQA):Mean:=⟨[(ba [100],(z:Int))],relsW,cs⟩
theorem headJ_sense {z:Nat} (h1:1≤z) (h8:z≤8):xQB pQH (headJ z)=.ok (baseM z []):=by
 have:z=1∨z=2∨z=3∨z=4∨z=5∨z=6∨z=7∨z=8:=by omega
 rcases this with rfl | rfl | rfl | rfl | rfl | rfl | rfl | rfl <;> rfl
theorem litsS_no {m:Mean}:∀ (ls:List LitI) {sc sc':aQB} {k:Nat} {xs:List (yQA×Bool)},eQG m sc k ls=.ok (xs,sc')→(∀ l∈ls,l.no=false)→∀ x∈xs,x.2=false
 | [],_,_,_,xs,h,_,x,hx=>by simp [eQG] at h;obtain ⟨rfl,_⟩:=h;cases hx
 | l :: ls,sc,sc',k,xs,h,hl,x,hx=>by
  unfold eQG at h;split at h
  ·cases h
  ·split at h
   ·cases h
   ·split at h
    ·cases h
    ·rename_i hr;cases h;rcases List.mem_cons.1 hx with rfl | hx
     ·exact hl l (by simp)
     ·exact litsS_no ls hr (fun y hy=>hl y (by simp [hy])) x hx
theorem clauses_sense {z:Nat}:∀ (is:List vQB),(∀ i∈is,∃ h ls,i=.clause h ls∧∀ l∈ls,l.no=false)→∀ {cs:List iQA} {m:Mean},xQB (baseM z cs) is=.ok m→NoBang cs→∃ cs',m=baseM z cs'∧NoBang cs'
 | [],_,cs,m,h,hb=>by simp [xQB] at h;exact ⟨cs,h.symm,hb⟩
 | i :: is,hi,cs,m,h,hb=>by
  obtain ⟨hd,ls,rfl,hno⟩:=hi i (by simp);unfold xQB nQD at h;dsimp only at h;unfold addClause at h;split at h
  ·cases h
  rename_i m1 h1;split at h1
  ·cases h1
  split at h1
  ·cases h1
  split at h1
  ·cases h1
  rename_i hr;cases h1;refine clauses_sense is (fun j hj=>hi j (by simp [hj])) (cs:=cs++_) h ?_;intro c hc a ha;rcases List.mem_append.1 hc with hc | hc
  ·exact hb c hc a ha
  ·simp only [List.mem_singleton] at hc;subst hc;exact litsS_no ls hr hno a ha
def NoNot (rs:List RawR):Prop:=∀ r∈rs,∀ l∈r.body,l.no=false
theorem rulesI_no (z:Nat) (nm:List UInt8) (back:Bool):∀ (rs:List RawR) (l:Nat),NoNot rs→∀ i∈vQK z nm back rs l,∃ h ls,i=.clause h ls∧∀ l∈ls,l.no=false
 | [],_,_,i,hi=>by cases hi
 | r :: rs,l,hn,i,hi=>by
  rw [vQK] at hi;split at hi
  ·exact rulesI_no z nm back rs l (fun x hx=>hn x (by simp [hx])) i hi
  ·rcases List.mem_cons.1 hi with rfl | hi
   ·refine ⟨_,_,rfl,fun a ha=>?_⟩;obtain ⟨b,hb,rfl⟩:=List.mem_map.1 ha;refine hn r (by simp) b ?_;unfold yQK at hb;split at hb
    ·exact List.mem_of_mem_take (List.mem_reverse.1 hb)
    ·exact List.mem_of_mem_take hb
   ·exact rulesI_no z nm back rs (l+1) (fun x hx=>hn x (by simp [hx])) i hi
theorem factsI_no (z:Nat):∀ (fs:List RawF) (l:Nat),∀ i∈factsI z fs l,∃ h ls,i=.clause h ls∧∀ l∈ls,l.no=false
 | [],_,i,hi=>by cases hi
 | f :: fs,l,i,hi=>by
  rw [factsI] at hi;rcases List.mem_cons.1 hi with rfl | hi
  ·exact ⟨_,_,rfl,fun a ha=>by cases ha⟩
  ·exact factsI_no z fs (l+1) i hi
theorem prog_says {z:Nat} (h1:1≤z) (h8:z≤8) {nm:List UInt8} (hn:NmOk nm) {back:Bool} {rs:List RawR} {fs:List RawF} (hno:NoNot rs) {toks:List Tn} {m:Mean} (hR:pQE (ba (jQA (oQF z nm back rs fs)))=.ok (toks,m)):∃ cs,m=baseM z cs∧NoBang cs:=by
 have h:=prog_read h1 h8 hn hR;unfold progI at h;rw [List.append_assoc,senseS_app,headJ_sense h1 h8] at h;dsimp only at h;refine clauses_sense _ (fun i hi=>?_) h (fun c hc=>by cases hc);rcases List.mem_append.1 hi with hi | hi
 ·exact rulesI_no z nm back rs 2 hno i hi
 ·exact factsI_no z fs _ i hi
theorem tailP_len (gs:List Sg) (h:∀ g∈gs,(tokB g).length≤1):(jQA (kQI gs)).length≤3 * gs.length:=by
 induction gs with
 | nil=>simp [kQI,jQA]
 | cons g gs ih=>
  have:=ih (fun x hx=>h x (by simp [hx]));have h1:=h g (by simp);rw [show kQI (g :: gs)=.t .comma :: .sp :: .t g :: kQI gs from rfl,kQB,kQB,kQB];simp only [List.length_append,List.length_cons];have a1:(pcB (.t .comma)).length=1:=rfl;have a2:(pcB .sp).length=1:=rfl;have a3:(pcB (.t g)).length=(tokB g).length:=rfl;omega
theorem termW_len (z:Nat) (nm:List UInt8) (x:Int):(tokB (termW z nm x)).length≤1:=by
 unfold termW;split <;> exact Nat.le_refl _
theorem atomO_len (k:Nat) (gs:List Sg) (h:∀ g∈gs,(tokB g).length≤1):(jQA (atomO k gs)).length≤2+3 * gs.length:=by
 unfold atomO;rw [kQB,kQB];simp only [List.length_append];have a1:(pcB (nmP (relB k))).length=1:=by unfold relB;split <;> rfl
 have a2:(pcB (.t .lp)).length=1:=rfl;cases gs with
 | nil=>simp [termsP,jQA] at *;omega
 | cons g gs=>
  have:=tailP_len gs (fun x hx=>h x (by simp [hx]));have h1:=h g (by simp);rw [show termsP (g :: gs)=.t g :: kQI gs from rfl,kQB];simp only [List.length_append,List.length_cons];have a3:(pcB (.t g)).length=(tokB g).length:=rfl;omega
theorem termsW_len1 (z:Nat) (nm:List UInt8) (L:List Int) (k:Nat):∀ g∈yQF z nm L k,(tokB g).length≤1:=fun g hg=>by
 obtain ⟨i,_,rfl⟩:=List.mem_map.1 hg;exact termW_len ..
theorem atomP_len (z:Nat) (nm:List UInt8) (l:RawL):(jQA (dQF z nm l)).length≤12:=by
 unfold dQF;rw [nQA,List.length_append];have:=atomO_len (kOf l.rel) _ (termsW_len1 z nm l.L (kOf l.rel));have h2:(yQF z nm l.L (kOf l.rel)).length=relK (kOf l.rel):=by simp [yQF]
 have h3:=(nQF (kOf l.rel)).2;have h4:(jQA [.t .rp]).length=1:=rfl;omega
theorem litP_len (z:Nat) (nm:List UInt8) (l:RawL):(jQA (litP z nm l)).length≤13:=by
 unfold litP;rw [nQA,List.length_append];have:=atomP_len z nm l;have h2:(jQA (if l.no=true then [Pc.t .bang] else [])).length≤1:=by split <;> decide
 omega
theorem moreP_blen (z:Nat) (nm:List UInt8):∀ (ls:List RawL),(jQA (pQF z nm ls)).length≤15 * ls.length
 | []=>Nat.le_refl _
 | l :: ls=>by
  have:=moreP_blen z nm ls;have h2:=litP_len z nm l;rw [show pQF z nm (l :: ls)=[.t .comma,.sp]++(litP z nm l++pQF z nm ls) by simp [pQF],nQA,nQA];simp only [List.length_append,List.length_cons];have a1:(jQA [.t .comma,.sp]).length=2:=rfl;omega
theorem bodyP_len (z:Nat) (nm:List UInt8) (ls:List RawL):(jQA (dQJ z nm ls)).length≤17 * ls.length:=by
 cases ls with
 | nil=>exact Nat.le_refl _
 | cons l ls=>
  have:=moreP_blen z nm ls;have h2:=litP_len z nm l;rw [dQJ,nQA,nQA];simp only [List.length_append,List.length_cons];have a1:(jQA [.sp,.t .arrow,.sp]).length=4:=rfl;omega
theorem litsOf_len (back:Bool) (r:RawR):(yQK back r).length≤4:=by
 unfold yQK;split <;> simp <;> omega
theorem ruleQ_len (z:Nat) (nm:List UInt8) (back:Bool) (r:RawR):(jQA (lQI z nm back r)).length≤100:=by
 unfold lQI;split
 ·simp [jQA]
 ·unfold sQH;rw [nQA,nQA,nQA];have h1:=atomP_len z nm r.head;have h2:=bodyP_len z nm (yQK back r);have h3:=litsOf_len back r;simp only [List.length_append];have a1:(jQA [.t .dot]).length=1:=rfl;have a2:(jQA [.nl]).length=1:=rfl;omega
theorem factP_len (k z:Nat) (L:List Int):(jQA (jQH k (jQE z L k))).length≤12:=by
 unfold jQH;rw [nQA,List.length_append];have h1:=txF_size k (jQE z L k);unfold txF at h1;rw [eQD] at h1;have h2:(jQE z L k).length=relK k:=by simp [jQE]
 have h3:=(nQF k).2;have a1:(jQA [.t .rp,.t .dot]).length=2:=rfl;omega
end
section
open Go.RowKit Go.Shelf
attribute [local go_sem] Oper.semAt_some
def atA (k:Nat) (gs:List Sg):ByteArray:=ba (jQA (atomO k gs))
theorem atA_start (k:Nat):relN k++ba [40]=atA k []:=by
 rw [relN_B,gQD];unfold atA atomO nmP;rw [kQB,kQB];simp [pcB,tokB,txt,ba,jQA,termsP]
theorem atA_one (k:Nat) (g:Sg):atA k []++txt g=atA k [g]:=by
 rw [←ba_tok];unfold atA;rw [gQD];simp [atomO,termsP,kQI,jQA,pcB]
theorem atA_more {k:Nat} {gs:List Sg} (h:gs≠[]) (g:Sg):atA k gs++ba [44,32]++txt g=atA k (gs++[g]):=by
 cases gs with
 | nil=>exact absurd rfl h
 | cons a gs=>
  rw [←ba_tok];unfold atA;rw [gQD,gQD];have e:atomO k (a :: gs++[g])=atomO k (a :: gs)++[.t .comma,.sp,.t g]:=by simp [atomO,termsP,kQI]
  rw [e,nQA];have e2:jQA [.t .comma,.sp,.t g]=[44,32]++tokB g:=by simp [jQA,pcB,tokB,txt]
  rw [e2,List.append_assoc]
theorem atA_end (k:Nat) (gs:List Sg):atA k gs++ba [41]=ba (jQA (atomO k gs++[.t .rp])):=by
 unfold atA;rw [gQD,nQA];rfl
theorem atA_size {k:Nat} {gs:List Sg} (h:∀ g∈gs,(tokB g).length≤1):(atA k gs).size≤2+3 * gs.length:=by
 unfold atA;rw [eQD];exact atomO_len k gs h
theorem name_cut {nm:List UInt8} (h4:nm.length=4) {v:Nat} (hv:v<4):(ba nm).extract v (v+1)=ba [nm.getD v 0]:=by
 apply ba_ext;rw [ByteArray.data_extract,Array.toList_extract];match nm,h4 with
 | [a,b,c,d],_=>
  have:v=0∨v=1∨v=2∨v=3:=by omega
  rcases this with rfl | rfl | rfl | rfl <;> rfl
theorem atom82_calls (w:World) (rel:Int) (no:Bool) {av:Option Addr} {L:List Int} {cap:Nat} (r0:-9223372036854775808≤rel) (r1:rel≤9223372036854775807) (hL:cQL w av L) {z:Nat} (hz:1≤z) (hz8:z≤8) {nm:List UInt8} (hn4:nm.length=4):Calls prog 82 #[.agg #[.int .i64 rel,.bool no,.slice av L.length cap],.int .i64 (z:Int),.string (ba nm)] w fun e w'=>e=.returned (.string (ba (jQA (dQF z nm ⟨rel,no,av,L,cap⟩))))∧aQA [] w w':=by
 have hend:∀ k,kOf rel=k→ba (jQA (dQF z nm ⟨rel,no,av,L,cap⟩))=atA k (yQF z nm L k)++ba [41]:=fun k hk=>by
  rw [atA_end];unfold dQF;rw [←hk]
 have hpk:=hide (fun (W:World)=>cQG (w:=W) rel 4 r0 r1 (by decide));rw [kOf_eq] at hpk;have hk4:=kOf_lt rel;generalize kOf rel=k at *;rw [hend k rfl];clear hend;have hrl:=hide (fun (W:World)=>nQJ W);have hcl:=hide (fun (W:World)=>aQK W hk4);have kF:=aQA.alloc [] w (.cells #[.int .i64 rel,.bool no,.slice av L.length cap] 59);have hF:=cQA.new w #[.int .i64 rel,.bool no,.slice av L.length cap] 59;have d0:=hF.cell 0;simp at d0;have HF:=hide hF;have HkF:=hide kF;clear hF kF r0 r1;have snm:(ba nm).size=4:=hn4;have Hcut:=hide (fun (v:Nat) (hv:v<4)=>name_cut hn4 hv);have e1:({ data:=#[40] }:ByteArray)=ba [40]:=rfl;have e2:({ data:=#[44,32] }:ByteArray)=ba [44,32]:=rfl;have e3:({ data:=#[41] }:ByteArray)=ba [41]:=rfl;generalize hnb:ba nm=NM at *;have Hnb:=hide hnb;clear hnb hn4;go_enter func82,ntmps82
 simp only [e1,e2,e3];clear e1 e2 e3;generalize hp1:ba [40]=t1 at *;generalize hp2:ba [44,32]=t2 at *;generalize hp3:ba [41]=t3 at *;have s1:t1.size=1:=by rw [←hp1];rfl
 have s2:t2.size=2:=by rw [←hp2];rfl
 have s3:t3.size=1:=by rw [←hp3];rfl
 have P1:=hide hp1;have P2:=hide hp2;have P3:=hide hp3;clear hp1 hp2 hp3;go_wp2_with fail
 refine (hpk.out _).mono ?_;rintro e W1 ⟨rfl,e1⟩;subst e1;go_wp2_with fail
 have zF:=dQA w (.cells #[.int .i64 rel,.bool no,.slice av L.length cap] 59);generalize w.alloc (.cells #[.int .i64 rel,.bool no,.slice av L.length cap] 59)=WF at *;refine (hrl.out _).mono ?_;rintro e W2 ⟨rfl,hcs,k2⟩;have ZF:=hide zF;clear zF;have q1:=hcs k hk4;have hkI:(k:Int)<4:=by omega
 have s4:(relN k).size=1:=by rw [relN_B];unfold relB;split <;> rfl
 have hst:=atA_start k;rw [P1.out] at hst;have Hst:=hide hst;obtain ⟨gs,hgs⟩:∃ gs,yQF z nm L k=gs:=⟨_,rfl⟩;have hcl3:gs.length=relK k:=by rw [←hgs];simp [yQF]
 have hck3:relK k≤3:=(nQF k).2;have hcat:∀ i,i<relK k→gs[i]?=some (termW z nm (L.getD i 0)):=fun i hi=>by rw [←hgs];simp [yQF,hi]
 have hone:∀ g∈gs,(tokB g).length≤1:=by rw [←hgs];exact termsW_len1 z nm L k
 have Hgs:=hide hgs;have Hcat:=hide hcat;have Hcl3:=hide hcl3;have Hone:=hide hone;have K2:=hide k2;clear hcs hst hgs hcat hcl3 k2 hone;generalize hnm:relN k=nk at *;clear hnm;go_wp2_with fail
 rw [Hst.out];clear q1 d0 s4;obtain ⟨n,hn⟩:∃ n,relK k=n:=⟨_,rfl⟩;rw [hn] at hcl Hcat Hcl3 hck3;clear hn;go_loopw [8,9] (fun y q wr=>∃ (i:Nat),y=.string (atA k (gs.take i))∧q=.int .i64 i∧i≤n∧aQA [] WF wr) (fun _ q _=>((n:Int) - intOf q).toNat)
 case atStart=>exact ⟨0,rfl,rfl,by omega,K2.out⟩
 case round=>
  obtain ⟨i,rfl,rfl,hi,hkw⟩:=hrel;have hsz:=atA_size (k:=k) (gs:=gs.take i) (fun g hg=>Hone.out g (List.mem_of_mem_take hg));have hszl:(gs.take i).length=i:=by rw [List.length_take,Nat.min_eq_left (by have:=Hcl3.out;omega)]
  have hsz8:(atA k (gs.take i)).size≤20:=by omega
  clear hsz;by_cases hin:i<n
  ·have hiI:(i:Int)<n:=(by omega);obtain ⟨x,hxe⟩:∃ x,L.getD i 0=x:=⟨_,rfl⟩;have hci:=Hcat.out i hin;rw [hxe] at hci;have htk:gs.take (i+1)=gs.take i++[termW z nm x]:=by rw [List.take_add_one,hci];rfl
   have h1:i=0→atA k (gs.take i)++txt (termW z nm x)=atA k (gs.take (i+1)):=fun e=>by subst e;rw [htk];exact atA_one k _
   have h2:0<i→atA k (gs.take i)++t2++txt (termW z nm x)=atA k (gs.take (i+1)):=fun e=>by rw [htk,←P2.out];exact atA_more (by intro q;rw [q] at hszl;simp at hszl;omega) _
   have H1:=hide h1;have H2:=hide h2;clear hci htk h1 h2 hszl;by_cases hx0:x<0
   ·have hiL:i<L.length:=by
     rcases Nat.lt_or_ge i L.length with q | q
     ·exact q
     ·rw [List.getD_eq_getElem?_getD,List.getElem?_eq_none q] at hxe;have:(0:Int)=x:=hxe;omega
    have hiLI:(i:Int)<L.length:=(by omega);have hx:L[i]?=some x:=by rw [List.getD_eq_getElem?_getD,List.getElem?_eq_getElem hiL] at hxe;rw [List.getElem?_eq_getElem hiL];exact congrArg some hxe
    obtain ⟨x0,x1,_⟩:=hL i x hx;have hpx:=hide (fun (W:World)=>cQG (w:=W) x 4 x0 x1 (by decide));obtain ⟨v0,v4⟩:=mQE x (n:=4) (by decide);obtain ⟨v,hv⟩:∃ v:Nat,pk3 x 4=(v:Int):=⟨(pk3 x 4).toNat,by omega⟩;have ht:txt (termW z nm x)=NM.extract v (v+1):=by
     rw [Hcut.out v (by omega)];unfold termW;rw [if_pos hx0,hv];rfl
    rw [hv] at hpx v0 v4;rw [ht] at H1 H2;have hvs:(NM.extract v (v+1)).size=1:=by rw [Hcut.out v (by omega)];rfl
    obtain ⟨ad,had,q0⟩:=hL.at (HkF.out.trans hkw) hx;subst had;have Q0:=hide q0;clear hx q0 hv ht hxe;go_wp2_with fail
    refine (hcl.out _).mono ?_;rintro e W5 ⟨rfl,k5⟩;have q0:W5.cell? (ad.add i)=some (.int .i64 x):=by
     rw [←Q0.out];have hb:=World.block_lt_of_cell? _ _ Q0.out;simp [World.cell?,k5.block _ hb (by simp)]
    have K5:=hide (hkw.trans k5);have d1:=(HF.out.keeps K5.out (by simp)).cell 2;simp at d1;clear k5 Q0 hkw;rcases Nat.eq_zero_or_pos i with hi0 | hi0
    ·have Hgr:=hide (H1.out hi0);subst hi0;have q0':W5.cell? ad=some (.int .i64 x):=(by simpa [Addr.add] using q0);generalize atA k (gs.take 0)=tt at *;clear H1 H2 q0;go_wp2_with fail
     refine (hpx.out _).mono ?_;rintro e W7 ⟨rfl,e7⟩;have e8:=e7.symm;subst e8;go_wp2_with fail
     exact ⟨⟨1,by rw [←Hgr.out],by simp,by omega,K5.out⟩,by simp only [intOf];omega⟩
    ·have hi0I:(0:Int)<i:=(by omega);have Hgr:=hide (H2.out hi0);generalize atA k (gs.take i)=tt at *;clear H1 H2;go_wp2_with fail
     refine (hpx.out _).mono ?_;rintro e W7 ⟨rfl,e7⟩;have e8:=e7.symm;subst e8;go_wp2_with fail
     exact ⟨⟨i+1,by rw [←Hgr.out],by simp,by omega,K5.out⟩,by simp only [intOf];omega⟩
   ·obtain ⟨v0,v4⟩:=mQE x (n:=(z:Int)) (by omega);obtain ⟨v,hv⟩:∃ v:Nat,pk3 x (z:Int)=(v:Int):=⟨(pk3 x (z:Int)).toNat,by omega⟩;have ht:txt (termW z nm x)=dgB v:=by
     unfold termW;rw [if_neg hx0,hv];rfl
    rw [hv] at v0 v4;rw [ht] at H1 H2;have hvs:=dgB_size v;have hit:=hide (fun (W:World)=>pQK (v:Int) (by omega) (by omega) W);rw [decG_dg (by omega)] at hit;generalize dgB v=dv at *;have hxr:-9223372036854775808≤x∧x≤9223372036854775807:=by
     rcases Nat.lt_or_ge i L.length with q | q
     ·have hx:L[i]?=some x:=by rw [List.getD_eq_getElem?_getD,List.getElem?_eq_getElem q] at hxe;rw [List.getElem?_eq_getElem q];exact congrArg some hxe
      exact ⟨(hL i x hx).1,(hL i x hx).2.1⟩
     ·rw [List.getD_eq_getElem?_getD,List.getElem?_eq_none q] at hxe;have:(0:Int)=x:=hxe;omega
    have hnum:=hide (fun (W:World)=>xQK (w:=W) x (z:Int) hxr.1 hxr.2 (by omega));rw [hv] at hnum;clear hxr ht hv;by_cases hiL:i<L.length
    ·have hiLI:(i:Int)<L.length:=(by omega);have hx:L[i]?=some x:=by rw [List.getD_eq_getElem?_getD,List.getElem?_eq_getElem hiL] at hxe;rw [List.getElem?_eq_getElem hiL];exact congrArg some hxe
     obtain ⟨ad,had,q0⟩:=hL.at (HkF.out.trans hkw) hx;subst had;have Q0:=hide q0;clear hx q0 hxe;go_wp2_with fail
     refine (hcl.out _).mono ?_;rintro e W5 ⟨rfl,k5⟩;have q0:W5.cell? (ad.add i)=some (.int .i64 x):=by
      rw [←Q0.out];have hb:=World.block_lt_of_cell? _ _ Q0.out;simp [World.cell?,k5.block _ hb (by simp)]
     have K5:=hide (hkw.trans k5);have d1:=(HF.out.keeps K5.out (by simp)).cell 2;simp at d1;clear k5 Q0 hkw;rcases Nat.eq_zero_or_pos i with hi0 | hi0
     ·have Hgr:=hide (H1.out hi0);subst hi0;have q0':W5.cell? ad=some (.int .i64 x):=(by simpa [Addr.add] using q0);generalize atA k (gs.take 0)=tt at *;clear H1 H2 q0;go_wp2_with fail
      refine (hnum.out _).mono ?_;rintro e W7 ⟨rfl,e7⟩;have e8:=e7.symm;subst e8;go_wp2_with fail
      refine (hit.out _).mono ?_;rintro e W7 ⟨rfl,e7⟩;have e8:=e7.symm;subst e8;go_wp2_with fail
      exact ⟨⟨1,by rw [←Hgr.out],by simp,by omega,K5.out⟩,by simp only [intOf];omega⟩
     ·have hi0I:(0:Int)<i:=(by omega);have Hgr:=hide (H2.out hi0);generalize atA k (gs.take i)=tt at *;clear H1 H2;go_wp2_with fail
      refine (hnum.out _).mono ?_;rintro e W7 ⟨rfl,e7⟩;have e8:=e7.symm;subst e8;go_wp2_with fail
      refine (hit.out _).mono ?_;rintro e W7 ⟨rfl,e7⟩;have e8:=e7.symm;subst e8;go_wp2_with fail
      exact ⟨⟨i+1,by rw [←Hgr.out],by simp,by omega,K5.out⟩,by simp only [intOf];omega⟩
    ·have hiLI:¬ (i:Int)<L.length:=(by omega);have hxz:x=0:=by
      rw [List.getD_eq_getElem?_getD,List.getElem?_eq_none (by omega)] at hxe;exact hxe.symm
     clear hxe;subst hxz;go_wp2_with fail
     refine (hcl.out _).mono ?_;rintro e W5 ⟨rfl,k5⟩;have K5:=hide (hkw.trans k5);have d1:=(HF.out.keeps K5.out (by simp)).cell 2;simp at d1;clear k5 hkw;rcases Nat.eq_zero_or_pos i with hi0 | hi0
     ·have Hgr:=hide (H1.out hi0);subst hi0;generalize atA k (gs.take 0)=tt at *;clear H1 H2;go_wp2_with fail
      refine (hnum.out _).mono ?_;rintro e W7 ⟨rfl,e7⟩;have e8:=e7.symm;subst e8;go_wp2_with fail
      refine (hit.out _).mono ?_;rintro e W7 ⟨rfl,e7⟩;have e8:=e7.symm;subst e8;go_wp2_with fail
      exact ⟨⟨1,by rw [←Hgr.out],by simp,by omega,K5.out⟩,by simp only [intOf];omega⟩
     ·have hi0I:(0:Int)<i:=(by omega);have Hgr:=hide (H2.out hi0);generalize atA k (gs.take i)=tt at *;clear H1 H2;go_wp2_with fail
      refine (hnum.out _).mono ?_;rintro e W7 ⟨rfl,e7⟩;have e8:=e7.symm;subst e8;go_wp2_with fail
      refine (hit.out _).mono ?_;rintro e W7 ⟨rfl,e7⟩;have e8:=e7.symm;subst e8;go_wp2_with fail
      exact ⟨⟨i+1,by rw [←Hgr.out],by simp,by omega,K5.out⟩,by simp only [intOf];omega⟩
  ·have hiI:¬ (i:Int)<n:=(by omega);have hin2:i=n:=(by omega);subst hin2;have hgt:gs.take i=gs:=by rw [List.take_of_length_le (by have:=Hcl3.out;omega)]
   rw [hgt] at hsz8 ⊢;clear hgt hszl;have Hfin:Hid (atA k (yQF z nm L k)=atA k gs):=hide (by rw [Hgs.out]);generalize atA k gs=tt at *;go_wp2_with fail
   refine (hcl.out _).mono ?_;rintro e W5 ⟨rfl,k5⟩;go_wp2_with fail
   go_ret
   exact ⟨by rw [Hfin.out];rfl,(HkF.out.trans hkw).trans k5⟩
end
end Go.Proofs.YtgjomknpjigkhaaGreatDoor
