import Derived.Test.YtgjomknpjigkhaaGreatDoorY37
namespace Go.Proofs.YtgjomknpjigkhaaGreatDoor
open Go.Proofs.Tryz
set_option maxRecDepth 100000
set_option maxHeartbeats 4000000
section
open Go.RowKit Go.Shelf
attribute [local go_sem] Oper.semAt_some
theorem Mq (z:Nat) (nm:List UInt8) (back:Bool):∀ (rs:List ER) (l:Nat),∀ i∈FR z nm back rs l,∃ h ls,i=.clause h ls
 | [],_,i,hi=>by cases hi
 | r :: rs,l,i,hi=>by
  rw [FR] at hi;split at hi
  ·exact Mq z nm back rs l i hi
  ·rcases AJ.1 hi with rfl | hi
   ·exact ⟨_,_,rfl⟩
   ·exact Mq z nm back rs (l+1) i hi
theorem bP {z:Nat} (h1:1≤z) (h8:z≤8) {nm:List UInt8} (hn:TM nm) {back:Bool} {rs:List ER} {fs:List Bc} {toks:List Tn} {m:Mean} (hR:EE (ba (Ah (EP z nm back rs fs)))=.ok (toks,m)):L1 z m.clauses:=by
 have h:=Qu h1 h8 hn hR;unfold KO at h;rw [Ag,JK,Nj h1 h8] at h;dsimp only at h;refine Pa _ (fun i hi=>?_) h (fun c hc=>by cases hc);rcases AC.1 hi with hi | hi
 ·exact Mq z nm back rs 2 i hi
 ·obtain ⟨a,b,c,_⟩:=RA z fs _ i hi;exact ⟨a,b,c⟩
theorem OE {cs:List Ae} {n:Nat} {vals:List Nat} (h:L0 cs n vals) {i:Nat} (hi:i<n):vals.getD i 0<n:=by
 have h1:=h.2.1 i hi;have h2:=Sw n (IS n (DL cs) i);unfold FC at h1;omega
structure Kk (z:Nat) (rc:List Ae) (fs:List Bc) (l0:Nat) (vals:List Nat):Prop where
 fine:DI (BY z (rc++CG z fs l0))
 st:DT layG (rc++CG z fs l0) vals
 lay:L0 (rc++CG z fs l0) 4 vals
 head:L1 z (rc++CG z fs l0)
 safe:∀ c∈rc++CG z fs l0,Eo c=false
 lits:∀ c∈rc,c.lits≠[]
theorem dM {z:Nat} (hz:1≤z) (hs:List Bc) (i:Nat) (l:List Nat) (h:J1 z hs i l):∀ x∈l,x<z:=fun x hx=>by
 obtain ⟨f,_,_,rfl⟩:=h;obtain ⟨p,_,rfl⟩:=AR.1 hx;exact HQ hz f.L p
theorem Zb {z:Nat} {cs cs':List Ae} {vals vals':List Nat} (hr:cs.filter C0=cs'.filter C0) (hv:∀ i,vals.getD i 0=vals'.getD i 0) {F:Nat→List Nat→Prop} {rk:Nat→List Nat→Option Nat} (h:Mh (BY z cs) vals F rk):Mh (BY z cs') vals' F rk:=fun b hb=>by
 obtain ⟨T,hT⟩:=h b hb;refine ⟨T,fun t ht i hi hvi=>?_⟩;have e1:CD (BY z cs') vals' b=CD (BY z cs) vals b:=by
  show (cs'.filter C0).filter _=(cs.filter C0).filter _;rw [hr];exact Dn (fun c _=>by rw [hv])
 have e2:Dr (BY z cs').rels.length vals' F rk b=Dr (BY z cs).rels.length vals F rk b:=by
  funext j
  unfold Dr;rw [hv];rfl
 rw [e1,e2];exact hT t ht i hi (by rw [hv];exact hvi)
section
variable {z:Nat} {rc:List Ae} {fs fs':List Bc} {l0 l1:Nat} {vals vals':List Nat}
theorem Kk.hin (h:Kk z rc fs l0 vals) (hz:1≤z) (h4:z≤4) {F:Nat→List Nat→Prop} (hF:∀ i l,F i l→∀ x∈l,x<z) {rk:Nat→List Nat→Option Nat} (hx:Mh (BY z (rc++CG z fs l0)) vals F rk):∀ k,k<4→∀ l r,rk k l=some r→r<100∧∀ x∈l,x<z:=fun k hk l r hr=>⟨jO h.fine h.st hz h4 h.head h.safe hF hx (fun i hi=>OE h.lay hi) k hk l r hr,dS h.fine h.st hz h.head h.safe hF hx (fun i hi=>OE h.lay hi) k hk l (by rw [hr];rfl)⟩
theorem Kk.same (h:Kk z rc fs l0 vals) (h':Kk z rc fs' l1 vals') {F:Nat→List Nat→Prop} {rk rk':Nat→List Nat→Option Nat} (hx:Mh (BY z (rc++CG z fs l0)) vals F rk) (hx':Mh (BY z (rc++CG z fs' l1)) vals' F rk'):Vb rk 4=Vb rk' 4:=by
 have hv:=YV h'.lay h'.st h.lay h.st;have hx2:=Zb (cs':=rc++CG z fs l0) (by rw [Oi h.lits,Oi h.lits]) hv hx';exact Tj (jN h.fine h.st hx hx2 (fun i hi=>OE h.lay hi)) 4 (AS _)
theorem NY (h1:1≤z) (h8:z≤8) {nm:List UInt8} (hn:TM nm) {back:Bool} {rs:List ER} {toks:List Tn} {m:Mean} (hR:EE (ba (Ah (EP z nm back rs fs)))=.ok (toks,m)):∃ rc l0,CN (BY z []) (FR z nm back rs 2)=.ok (BY z rc)∧m=BY z (rc++CG z fs l0)∧(∀ vals,DT layG m.clauses vals→L0 m.clauses m.rels.length vals→Kk z rc fs l0 vals):=by
 obtain ⟨rc,hr,hl,hm⟩:=Y1 h1 h8 hn hR;have ha:=Lf hR;have hb:=bP h1 h8 hn hR;have hc:=UA hR;refine ⟨rc,_,hr,hm,fun vals hs hy=>?_⟩;subst hm;exact ⟨ha,hs,hy,hb,hc,hl⟩
end
theorem Pu:∀ c:Nat,(C7 c).Nodup
 | 0=>by simp [C7]
 | c+1=>by
  unfold C7 List.Nodup;rw [List.pairwise_flatMap];refine ⟨fun d _=>?_,?_⟩
  ·rw [List.pairwise_map];exact (Pu c).imp (fun h e=>h (List.cons.inj e).2)
  ·refine List.nodup_range.imp (fun {a b} h x hx y hy e=>?_);obtain ⟨x',_,rfl⟩:=AR.1 hx;obtain ⟨y',_,rfl⟩:=AR.1 hy;exact h (List.cons.inj e).1
theorem Qz:∀ (l l':List (List Nat)),l.Nodup→(∀ x∈l,x∈l')→l.length≤l'.length
 | [],_,_,_=>CP _
 | a :: l,l',hn,h=>by
  obtain ⟨h1,h2⟩:=B9.1 hn;have ha:=h a (by simp);have ih:=Qz l (l'.erase a) h2 (fun x hx=>(List.mem_erase_of_ne (fun e=>h1 (by rw [←e];exact hx))).2 (h x (by simp [hx])));rw [List.length_erase_of_mem ha] at ih;have:=DR ha;rw [AV];omega
theorem Ws (hs:List Bc) (o:Nat):(hs.filter (fun f=>decide (kOf f.rel=o))).length+(hs.filter (fun f=>decide (o+1≤kOf f.rel))).length=(hs.filter (fun f=>decide (o≤kOf f.rel))).length:=by
 induction hs with
 | nil=>rfl
 | cons f hs ih=>
  by_cases h1:kOf f.rel=o
  ·rw [BB (by simpa using h1),BC (by simp;omega),BB (by simp;omega)];simp only [AV];omega
  ·by_cases h2:o+1≤kOf f.rel
   ·rw [BC (by simpa using h1),BB (by simpa using h2),BB (by simp;omega)];simp only [AV];omega
   ·rw [BC (by simpa using h1),BC (by simpa using h2),BC (by simp;omega)];exact ih
theorem PR {S:ST} {hs:List Bc}:∀ (rs:List A9) (o:Nat),(∀ j r,rs[j]?=some r→(S.trues r.fa (3 * r.n)).length≤(hs.filter (fun f=>decide (kOf f.rel=o+j))).length)→factN S rs≤(hs.filter (fun f=>decide (o≤kOf f.rel))).length
 | [],_,_=>CP _
 | r :: rs,o,h=>by
  have h0:=h 0 r rfl;have ih:=PR rs (o+1) (fun j q hq=>by have:=h (j+1) q (by simpa using hq);rwa [show o+1+j=o+(j+1) by omega]);have:=Ws hs o;unfold factN at ih ⊢;rw [A0,List.sum_cons];rw [CB] at h0;omega
open Classical in
theorem eB {S:ST} {rs:List A9} {z:Nat} {hs:List Bc} {rk:Nat→List Nat→Option Nat} (ha:ES S rs (J1 z hs) rk):factN S rs≤hs.length:=by
 refine Ai (PR rs 0 (fun j r hr=>?_)) (BX _ _);have h1:=OQ (ha j r hr).fa (fun l=>decide (J1 z hs j l)) (fun l=>by simp);have h2:(S.trues r.fa (3 * r.n)).length=(GO S r.fa r.n).length:=by unfold GO;rw [AZ]
 rw [h2,h1,Ad]
 have h3:=Qz ((C7 r.n).filter (fun l=>decide (J1 z hs j l))) ((hs.filter (fun f=>decide (kOf f.rel=j))).map (fun f=>Cl z f.L (kOf f.rel))) ((List.filter_sublist).nodup (Pu _)) (fun l hl=>by
  obtain ⟨f,hf,e1,e2⟩:J1 z hs j l:=by simpa using (Ap.1 hl).2
  exact AR.2 ⟨f,Ap.2 ⟨hf,by simpa using e1⟩,e2⟩)
 rwa [AZ] at h3
section
variable {W0 W W':World} {lo eb bb:Nat} {B:SB} {S0:ST} {gr cr:Nat} {rs0:List A9} {tv mv:Value} {ka:Option Addr} {ks:List CluX} {kc:Nat} {z:Nat} {cs:List Ae} {vals:List Nat} {F0 F:Nat→List Nat→Prop} {rk0:Nat→List Nat→Option Nat} {n:Nat}
def OJ (W0:World) (lo bb:Nat) (B:SB) (gr cr:Nat) (rs0:List A9) (tv mv:Value) (ka:Option Addr) (ks:List CluX) (kc:Nat) (m:Mean) (vals:List Nat) (n:Nat) (F:Nat→List Nat→Prop) (W:World):Prop:=∃ S rs rk,EM W lo bb B S gr cr rs tv mv ka ks kc m vals F rk∧(ftp B gr rs=ftp B gr rs0∧LikeQ rs0 rs)∧AA (ftp B gr rs0) W0 W∧S.next≤300000000000000+n * 200000000200000∧Mh m vals F rk
structure Qd (W0:World) (lo eb bb:Nat) (B:SB) (S0:ST) (gr cr:Nat) (rs0:List A9) (tv mv:Value) (ka:Option Addr) (ks:List CluX) (kc:Nat) (m:Mean) (vals:List Nat) (F0:Nat→List Nat→Prop) (rk0:Nat→List Nat→Option Nat):Prop where
 eng:EM W0 lo bb B S0 gr cr rs0 tv mv ka ks kc m vals F0 rk0
 cell:AM W0 eb #[.pointer (some ⟨bb,0,none⟩)]
 out:eb∉bb :: ftp B gr rs0
 fine:DI m
 st:DT layG m.clauses vals
 lt:∀ i,i<m.rels.length→vals.getD i 0<m.rels.length
theorem Qd.low (h:Qd W0 lo eb bb B S0 gr cr rs0 tv mv ka ks kc (BY z cs) vals F0 rk0):∀ j∈bb :: ftp B gr rs0,lo≤j∧j<W0.heap.size:=fun j hj=>⟨h.eng.low j hj,ftp_lt h.eng.bse j hj⟩
theorem OJ.keep (h0:Qd W0 lo eb bb B S0 gr cr rs0 tv mv ka ks kc (BY z cs) vals F0 rk0) (h:OJ W0 lo bb B gr cr rs0 tv mv ka ks kc (BY z cs) vals n F W) {T:List Nat} (k:AA T W W') (hT:∀ j∈T,W0.heap.size≤j):OJ W0 lo bb B gr cr rs0 tv mv ka ks kc (BY z cs) vals n F W':=by
 obtain ⟨S,rs,rk,hE,⟨ef,lk⟩,k0,hn,hx⟩:=h;have hlow:=fun j hj=>(h0.low j hj).2;have h1:∀ j∈bb :: ftp B gr rs,j∉T:=fun j hj hm=>by
  rw [ef] at hj;have:=hlow j hj;have:=hT j hm;omega
 have k0':AA (ftp B gr rs0) W0 W':=k0.trans_new k (fun j hj=>.inr (hT j hj));exact ⟨S,rs,rk,h0.eng.like (hE.bse.other k (h1 bb (by simp)) (h1 gr (by simp [ftp])) (fun r hr=>h1 _ (by simp only [ftp,AJ,AC,AR];exact .inr (.inr (.inl ⟨r,hr,rfl⟩)))) (hE.bse.eng.keeps k (fun i hi=>h1 i (AO _ (Ck hi))))) lk ef k0' hE.all,⟨ef,lk⟩,k0',hn,hx⟩
theorem OJ.keep0 (h0:Qd W0 lo eb bb B S0 gr cr rs0 tv mv ka ks kc (BY z cs) vals F0 rk0) (h:OJ W0 lo bb B gr cr rs0 tv mv ka ks kc (BY z cs) vals n F W) (k:AA [] W W'):OJ W0 lo bb B gr cr rs0 tv mv ka ks kc (BY z cs) vals n F W':=h.keep h0 k (by simp)
theorem Qd.at (h0:Qd W0 lo eb bb B S0 gr cr rs0 tv mv ka ks kc (BY z cs) vals F0 rk0) (k:AA (ftp B gr rs0) W0 W):AM W eb #[.pointer (some ⟨bb,0,none⟩)]:=h0.cell.keeps k (fun hm=>h0.out (AO _ hm))
theorem O5 (h0:Qd W0 lo eb bb B S0 gr cr rs0 tv mv ka ks kc (BY z cs) vals F0 rk0) (h:OJ W0 lo bb B gr cr rs0 tv mv ka ks kc (BY z cs) vals n F W) (hn:n≤100) {k:Nat} (hk:k<4) {l:List Nat} (hl:l.length=relK k) (hz:∀ x∈l,x<z) {g cap:Nat} (hrow:Bt W g (J2 l)) (hg:W0.heap.size≤g) :
  Calls prog 26 #[.pointer (some ⟨eb,0,none⟩),.string (IB k),.slice (some ⟨g,0,none⟩) l.length cap] W fun e w'=>(e=.returned (.int .i64 14)∧¬ F k l∧AA [] W w')∨(e=.returned (.int .i64 0)∧F k l∧OJ W0 lo bb B gr cr rs0 tv mv ka ks kc (BY z cs) vals (n+1) (Va F (k,l)) w'∧AA (ftp B gr rs0) W w'):=by
 obtain ⟨S,rs,rk,hE,⟨ef,lk⟩,k0,hS,hx⟩:=h;have hlow:=fun j hj=>(h0.low j hj).2;refine (On (cap:=cap) hE h0.fine (h0.at k0) (Oo hk).2 hrow (fun hm=>by have:=hlow g (by rw [←ef];exact AO _ (Ck hm));omega) (Vj hk hl hz) (Nat.le_of_lt (h0.lt k hk)) (by unfold Fq;omega)).mono ?_;rintro e w' (⟨rfl,a,b⟩ | ⟨rfl,a,S',rs',rk',hE',⟨ef',lk'⟩,hS',k',hls⟩)
 ·exact .inl ⟨rfl,a,b⟩
 ·rw [gD a] at hE' hls;rw [ef] at k' ef';refine .inr ⟨rfl,a,⟨S',rs',rk',hE',⟨ef',lk.trans lk'⟩,k0.trans k',by omega,?_⟩,k'⟩;have hla:=Q9 hE'.rsok h0.fine h0.st hE'.ksc hls;rw [hE'.len] at hla
  exact PJ h0.fine h0.st hx (j:=k) (fun i hi=>by
   funext t
   unfold Va
   rw [if_neg (by simp [hi])]) hla
theorem Xy {hs:List Bc} (h0:Qd W0 lo eb bb B S0 gr cr rs0 tv mv ka ks kc (BY z cs) vals F0 rk0) (h:OJ W0 lo bb B gr cr rs0 tv mv ka ks kc (BY z cs) vals n F W) (hF:F=J1 z hs) (hs60:hs.length<60) (hn:n≤100) {k:Nat} (hk:k<4) {l:List Nat} (hl:l.length=relK k) (hz:∀ x∈l,x<z) (hnF:¬ F k l) {g cap:Nat} (hrow:Bt W g (J2 l)) (hg:W0.heap.size≤g) :
  Calls prog 27 #[.pointer (some ⟨eb,0,none⟩),.string (IB k),.slice (some ⟨g,0,none⟩) l.length cap] W fun e w'=>e=.returned (.int .i64 0)∧OJ W0 lo bb B gr cr rs0 tv mv ka ks kc (BY z cs) vals (n+1) (Va F (k,l)) w'∧AA (ftp B gr rs0) W w':=by
 obtain ⟨S,rs,rk,hE,⟨ef,lk⟩,k0,hS,hx⟩:=h;have hlow:=fun j hj=>(h0.low j hj).2;have hN:factN S rs<60:=by
  have:=hE.all;rw [hF] at this;exact Nat.lt_of_le_of_lt (eB this) hs60
 refine (VU (cap:=cap) hE h0.fine (h0.at k0) (Oo hk).2 hrow (fun hm=>by have:=hlow g (by rw [←ef];exact AO _ (Ck hm));omega) (Vj hk hl hz) (Nat.le_of_lt (h0.lt k hk)) (by unfold Fq;omega)).mono ?_;rintro e w' (⟨c,rfl,(⟨_,a⟩ | ⟨_,_,a⟩),b⟩ | ⟨rfl,a,S',rs',rk',hE',⟨ef',lk'⟩,hS',k',hls⟩)
 ·exact absurd a hnF
 ·omega
 ·rw [mI a] at hE' hls;rw [ef] at k' ef';refine ⟨rfl,⟨S',rs',rk',hE',⟨ef',lk.trans lk'⟩,k0.trans k',by omega,?_⟩,k'⟩;have hla:=Q9 hE'.rsok h0.fine h0.st hE'.ksc hls;rw [hE'.len] at hla
  exact PJ h0.fine h0.st hx (j:=k) (fun i hi=>by
   funext t
   unfold Va
   rw [if_neg (by simp [hi])]) hla
end
theorem UY {W0 W:World} {lo eb bb:Nat} {B:SB} {S0:ST} {gr cr:Nat} {rs0:List A9} {tv mv:Value} {ka:Option Addr} {ks:List CluX} {kc:Nat} {z:Nat} {rc:List Ae} {fs:List Bc} {l0:Nat} {vals:List Nat} {F0 F:Nat→List Nat→Prop} {rk0:Nat→List Nat→Option Nat} {n:Nat} (h0:Qd W0 lo eb bb B S0 gr cr rs0 tv mv ka ks kc (BY z (rc++CG z fs l0)) vals F0 rk0) (hp:Kk z rc fs l0 vals) (hz:1≤z) (h4:z≤4) (h:OJ W0 lo bb B gr cr rs0 tv mv ka ks kc (BY z (rc++CG z fs l0)) vals n F W) (hF:∀ i l,F i l→∀ x∈l,x<z) :
  Calls prog 22 #[.pointer (some ⟨eb,0,none⟩)] W fun e w'=>(∃ rk,Mh (BY z (rc++CG z fs l0)) vals F rk∧e=.returned (.tuple #[.string (Vb rk 4),.bool true]))∧AA [] W w':=by
 obtain ⟨S,rs,rk,hE,⟨ef,lk⟩,k0,hS,hx⟩:=h;exact (RZ hE h0.fine (h0.at k0) (hp.hin hz h4 hF hx) (by omega)).mono (fun e w' q=>⟨⟨rk,hx,q.1⟩,q.2⟩)
theorem UW {W:World} {lo eb bb:Nat} {B:SB} {S:ST} {gr cr:Nat} {rs:List A9} {tv mv:Value} {ka:Option Addr} {ks:List CluX} {kc:Nat} {z:Nat} {rc:List Ae} {fs:List Bc} {l0:Nat} {vals:List Nat} {rk:Nat→List Nat→Option Nat} (hM:VX W lo eb (BY z (rc++CG z fs l0)) bb B S gr cr rs tv mv ka ks kc vals rk) (hp:Kk z rc fs l0 vals):Qd W lo eb bb B S gr cr rs tv mv ka ks kc (BY z (rc++CG z fs l0)) vals (J1 z fs) rk∧OJ W lo bb B gr cr rs tv mv ka ks kc (BY z (rc++CG z fs l0)) vals 0 (J1 z fs) W:=by
 have hE:=hM.eng;have hx:=Zc hp.fine hp.st (hM.lays hp.fine);have e:E6 (BY z (rc++CG z fs l0)).clauses=J1 z fs:=Sj hp.lits fs l0;rw [e] at hE hx;exact ⟨⟨hE,hM.cell,hM.out,hp.fine,hp.st,fun i hi=>OE hp.lay hi⟩,S,rs,rk,hE,⟨rfl,LikeQ.refl _⟩,AA.refl _ _,by have:=hM.next;omega,hx⟩
end
section
open Go.RowKit Go.Shelf
structure QE (b:Nat) (W:World) (x y:Value) (hs ds:List Bc):Prop where
 xr:W.ownsRow b 51 2 x hs.length (DA hs)
 yr:W.ownsRow b 51 2 y ds.length (DA ds)
 sep:∀ j,x.ownBlock=some j→y.ownBlock≠some j
section
variable {b:Nat} {W W':World} {x y:Value} {hs hs' ds ds':List Bc}
theorem QE.keep (h:QE b W x y hs ds) {T:List Nat} (k:AA T W W') (hT:∀ j∈T,j<b):QE b W' x y hs ds:=
 ⟨AI h.xr k (fun i hi hm=>by have:=(Am h.xr i hi).1;have:=hT i hm;omega),AI h.yr k (fun i hi hm=>by have:=(Am h.yr i hi).1;have:=hT i hm;omega),h.sep⟩
theorem QE.keep0 (h:QE b W x y hs ds) (k:AA [] W W'):QE b W' x y hs ds:=h.keep k (by simp)
theorem QE.growX (h:QE b W x y hs ds) (k:AA (Aa x) W W') {x':Value} (hr:W'.ownsRow b 51 2 x' hs'.length (DA hs')) (hat:x'.ownBlock=x.ownBlock∨x'.ownBlock=some W.heap.size):QE b W' x' y hs' ds:=by
 refine ⟨hr,AI h.yr k (fun i hi hm=>h.sep i (by simpa [Aa] using hm) hi),fun j hj=>?_⟩;rcases hat with e | e
 ·exact h.sep j (by rw [←e];exact hj)
 ·rw [e] at hj;cases hj;intro q;have:=(Ba h.yr _ q).2;omega
theorem QE.growY (h:QE b W x y hs ds) (k:AA (Aa y) W W') {y':Value} (hr:W'.ownsRow b 51 2 y' ds'.length (DA ds')) (hat:y'.ownBlock=y.ownBlock∨y'.ownBlock=some W.heap.size):QE b W' x y' hs ds':=by
 refine ⟨AI h.xr k (fun i hi hm=>h.sep i hi (by simpa [Aa] using hm)),hr,fun j hj q=>?_⟩;rcases hat with e | e
 ·exact h.sep j hj (by rw [←e];exact q)
 ·rw [e] at q;cases q;have:=(Ba h.xr _ hj).2;omega
theorem QE.new (h:QE b W x y hs ds) (k:AA [] W W') {x':Value} (hr:W'.ownsRow b 51 2 x' hs'.length (DA hs')) (hat:∀ j,x'.ownBlock=some j→W.heap.size≤j):QE b W' x' y hs' ds:=by
 refine ⟨hr,AI h.yr k,fun j hj q=>?_⟩;have:=hat j hj;have:=(Ba h.yr _ q).2;omega
end
theorem Kz (hs:List Bc):(DA hs).length=hs.length * 2:=by
 induction hs with
 | nil=>rfl
 | cons f hs ih=>
  have:DA (f :: hs)=Gc f++DA hs:=by simp [DA]
  rw [this,AN,ih,AV];simp [Gc];omega
theorem K3 (a b:List Bc):DA (a++b)=DA a++DA b:=by simp [DA]
theorem M9 {hs:List Bc}:∀ u∈DA hs,u.oneCell' = true:=fun u hu=>by
 obtain ⟨f,_,h⟩:=A2.1 hu;simp only [Gc,AJ,List.mem_nil_iff,or_false] at h;rcases h with rfl | rfl <;> rfl
theorem eC {W:World} {b g n c:Nat} {hs:List Bc} (h:W.ownsRow b 51 2 (.slice (some ⟨g,0,none⟩) n c) n (DA hs)) (i:Nat):∀ (j:Nat) (u:Value),(DA (hs.take i))[j]?=some u→W.cell? ((⟨g,0,none⟩:Addr).add j)=some u:=fun j u hu=>by
 rw [Addr.add_lit,Ad];refine BI h ?_;rw [←List.take_append_drop i hs,K3,At (AL.1 hu).1];exact hu
theorem Zi {W:World} {b g n c:Nat} {hs:List Bc} (h:W.ownsRow b 51 2 (.slice (some ⟨g,0,none⟩) n c) n (DA hs)) {i:Nat} (hi:i≤hs.length):∀ (j:Nat) (u:Value),(DA (hs.drop i))[j]?=some u→W.cell? ((⟨g,i * 2,none⟩:Addr).add j)=some u:=fun j u hu=>by
 rw [Addr.add_lit];refine BI h ?_;rw [←List.take_append_drop i hs,K3,Aq (by rw [Kz,A5];omega),Kz,A5,show i * 2+j - min i hs.length * 2=j by omega];exact hu
theorem bW {W:World} {b s n c:Nat} {e:TypeId} {a:Option Addr} {xs:List Value} (h:W.ownsRow b e s (.slice a n c) n xs):n≤c:=by
 rcases h.2 with ⟨h1,h2⟩ | ⟨g,cap,cur,h1,_,_,h3,_⟩
 ·omega
 ·injection h1 with _ _ h1;omega
theorem Zs {z:Nat} {a b:List Ae} (h:(Except.ok (BY z a):Except J5 Mean)=.ok (BY z b)):a=b:=by
 injection h with h;exact congrArg Mean.clauses h
def mU:List UInt8:=[88,89,90,87]
theorem cH:TM mU:=⟨rfl,by decide⟩
end
section
open Go.RowKit Go.Shelf
attribute [local go_sem] Oper.semAt_some
set_option maxHeartbeats 16000000 in
theorem Ss (w:World) (raw:Int) (c0:-9223372036854775808≤raw) (c1:raw≤9223372036854775807) {ra:Option Addr} {rs:List ER} {rc:Nat} (hrs:Je w ra rs) (hrl:rs.length≤10000000000000) {fa:Option Addr} {fs:List Bc} {fc:Nat} (hfs:Eh w fa fs) {ma:Option Addr} {ms:List Bc} {mc:Nat} (hms:Eh w ma ms) :
  Calls prog 9 #[.int .i64 raw,.slice ra rs.length rc,.slice fa fs.length fc,.slice ma ms.length mc] w fun e w'=>e=.returned (.bool true)∧AA [] w w':=by
 obtain ⟨i51,hi51,hza0,hza1,hza2⟩:=info_parts dO;have hwk:=AD (fun (W:World)=>TW W);obtain ⟨q0,q4⟩:=Ey raw (n:=4) (by decide);obtain ⟨z,hz⟩:∃ z:Nat,1+N4 raw 4=(z:Int):=⟨(1+N4 raw 4).toNat,by omega⟩;have hz1:1≤z:=by omega
 have hz4:z≤4:=by omega
 have hz8:z≤8:=by omega
 have hsz:=AD (fun (W:World)=>QH (w:=W) raw c0 c1);rw [hz] at hsz;have Hrs:=AD hrs;have Hfs:=AD hfs;have Hms:=AD hms;have hpr:=AD (fun (W:World) (k:AA [] w W) (ad:Option Addr) (hs:List Bc) (c:Nat) (hhs:Eh W ad hs) (hl:hs.length≤1000)=>N3 (rc:=rc) (fc:=c) W (hrs.keeps k) hrl hhs (by omega) hz1 hz8 (nm:=mU) rfl);have htx:∀ hs:List Bc,hs.length≤1000→(ba (Ah (EP z mU false rs hs))).size≤9223372036854775807:=fun hs h=>by
  have:=UC z mU rs hs;unfold Xq at this;omega
 have Htx:=AD htx;obtain ⟨R,hR⟩:∃ R,rs.length=R:=⟨_,rfl⟩;obtain ⟨F,hF⟩:∃ F,fs.length=F:=⟨_,rfl⟩;obtain ⟨M,hM⟩:∃ M,ms.length=M:=⟨_,rfl⟩;have HF:=AD hF;have HM:=AD hM;rw [hR] at hrl hpr ⊢;rw [hF,hM];clear hrs hfs hms c0 c1 q0 q4 hz hR hF hM htx;have e1:({ data:=#[88,89,90,87] }:ByteArray)=ba mU:=rfl;go_in
 simp only [e1];clear e1;go_wp2_with fail
 refine (hwk.out _).mono ?_;rintro e W0 ⟨rfl,k0⟩;go_wp2_with fail
 refine (hsz.out _).mono ?_;rintro e W1 ⟨rfl,e1⟩;have e2:=e1.symm;subst e2;have K0:=AD k0;clear hwk hsz k0;go_wp2_with fail
 go_loopw [11,12] (fun x q wk=>∃ (i:Nat),q=.int .i64 i∧i≤F∧i≤10∧Hid (wk.ownsRow W0.heap.size 51 2 x i (DA (fs.take i))∧AA [] W0 wk)) (fun _ q _=>((10:Int) - intOf q).toNat)
 case atStart=>exact ⟨0,rfl,CP _,CP _,AD ⟨World.ownsRow_nil ..,AA.refl _ _⟩⟩
 case round=>
  obtain ⟨i,rfl,hiF,hi10,hI⟩:=hrel;obtain ⟨xa,xc,hxv⟩:=Aj hI.out.1;subst hxv;obtain ⟨cb,hcb⟩:∃ cb,decide (i<F∧i<10)=cb:=⟨_,rfl⟩;go_upto_region 5 with fail
  go_cut [47] (fun y wd=>y=.bool cb∧wd=wr)
  case first=>
   by_cases h1:i<F
   ·have h1I:(i:Int)<F:=(by omega);by_cases h2:i<10
    ·have h2I:(i:Int)<10:=(by omega);have hc:cb=true:=by rw [←hcb];simp [h1,h2]
     subst hc;clear hcb;go_wp2_with fail
     go_meet
     exact ⟨rfl,rfl⟩
    ·have h2I:¬ (i:Int)<10:=(by omega);have hc:cb=false:=by rw [←hcb];simp [h2]
     subst hc;clear hcb;go_wp2_with fail
     go_meet
     exact ⟨rfl,rfl⟩
   ·have h1I:¬ (i:Int)<F:=(by omega);have hc:cb=false:=by rw [←hcb];simp [h1]
    subst hc;clear hcb;go_wp2_with fail
    go_meet
    exact ⟨rfl,rfl⟩
  case rest=>
   obtain ⟨rfl,rfl⟩:=hcut;cases cb with
   | true=>
    obtain ⟨h1,h2⟩:=of_decide_eq_true hcb;have h1I:(i:Int)<F:=(by omega);clear hcb;obtain ⟨g,hg⟩:∃ g,fs[i]?=some g:=⟨_,AB (by have:=HF.out;omega)⟩;obtain ⟨gb,o,hav,hga⟩:=(Hfs.out i g hg).2;subst hav;have p0:=BV (K0.out.trans hI.out.2) hga.c0;have p1:=BV (K0.out.trans hI.out.2) hga.c1;have htk:fs.take (i+1)=fs.take i++[g]:=by rw [An,hg];rfl
    have Htk:=AD htk;have kA:=AA.alloc [] wc (.cells #[.int .i64 g.rel,.slice g.av g.L.length g.cap] 51);have hrow:=AD (AI hI.out.1 kA);have hone:=AD (Ja wc g 51);have hbase:W0.heap.size≤(wc.alloc (.cells #[.int .i64 g.rel,.slice g.av g.L.length g.cap] 51)).heap.size:=(hI.out.2.trans kA).size;have KA:=AD (hI.out.2.trans kA);clear kA hg hga htk;go_wp2_with (at_builtin;refine wpList_append_own_at _ rfl _ _ 43 rfl W0.heap.size 51 i51 (.agg #[.int .i64 0,.slice none 0 0]) 2 32 underlying43 hi51 hza0 hza1 hza2 rfl (by decide) _ i _ rfl hrow.out ⟨wc.heap.size,0,none⟩ 1 1 _ rfl (by rfl) hone.out (by simp [Gc,Value.oneCell']) (by unfold maxLen;omega) (by omega) hbase ?_)
    intro v6 W6 hown6 hgrow6 hnil6 hat6;have k6:=grownBy_keeps' hgrow6 (Aa (.slice xa i xc)) (fun r e=>.inl (by simp [Aa,e]));have Hfin:Hid (W6.ownsRow W0.heap.size 51 2 v6 (i+1) (DA (fs.take (i+1)))∧AA [] W0 W6):=AD ⟨by rw [Htk.out,Jb];exact hown6,KA.out.trans_new k6 (fun j hj=>.inr (Am hrow.out j (by simpa [Aa] using hj)).1)⟩;clear hown6 hgrow6 hnil6 hat6 k6;obtain ⟨va,vc,hvv⟩:=Aj Hfin.out.1;subst hvv;go_wp2_with fail
    exact ⟨⟨i+1,by simp,by omega,by omega,Hfin⟩,by simp only [intOf];omega⟩
   | false=>
    clear hcb;obtain ⟨fl,hfl2⟩:∃ fl,fs.take i=fl:=⟨_,rfl⟩;have hll:fl.length=i:=by rw [←hfl2,A5,HF.out];omega
    have hrow:=hI.out.1;rw [hfl2] at hrow;have Kw:=AD (K0.out.trans hI.out.2);have hfok:∀ f∈fl,Fh w f:=fun f hf=>by
     rw [←hfl2] at hf;obtain ⟨j,hj⟩:=DC (Cj hf);exact (Hfs.out j f hj).1
    have hmok:∀ f∈ms,Fh w f:=fun f hf=>by
     obtain ⟨j,hj⟩:=DC hf;exact (Hms.out j f hj).1
    have hfi:Eh wc xa fl:=Kt (c:=xc) (by rw [hll];exact hrow) (fun f hf=>(hfok f hf).keeps Kw.out);have hp1:=AD (hpr.out wc Kw.out xa fl xc hfi (by omega));rw [hll] at hp1;obtain ⟨s,hs⟩:∃ s,ba (Ah (EP z mU false rs fl))=s:=⟨_,rfl⟩;have hss:s.size≤9223372036854775807:=by rw [←hs];exact Htx.out fl (by omega)
    rw [hs] at hp1;have Hs:=AD hs;have Hll:=AD hll;have Hrow:=AD hfi;have Hok:=AD (AU hfok hmok);clear hfl2 hll hrow hfi hs hfok hmok hI;cases hRd:EE s with
    | error f=>
     have hmd:=AD (fun (W:World)=>Q6 (w:=W) s hss hRd);clear hRd;go_wp2_with fail
     refine hp1.out.mono ?_;rintro e W2 ⟨rfl,k2⟩;go_wp2_with fail
     refine (hmd.out _).mono ?_;rintro e W3 ⟨rfl,k3⟩;go_wp2_with fail
     go_ret
     exact ⟨rfl,(Kw.out.trans k2).trans k3⟩
    | ok q=>
     obtain ⟨toks,m⟩:=q;have hRd':=hRd;rw [←Hs.out] at hRd';obtain ⟨cl,l0,hsen,hm,hPO⟩:=NY hz1 hz8 cH hRd';have hmd:=AD (fun (W:World)=>ML (w:=W) s hss hRd (by rw [hm];show 0<T6.length;decide));have Hsen:=AD hsen;have HPO:=AD hPO;have Hm:=AD hm;clear hRd hRd' hsen hPO hm;go_wp2_with fail
     refine hp1.out.mono ?_;rintro e W2 ⟨rfl,k2⟩;go_wp2_with fail
     refine (hmd.out _).mono ?_;rintro e WE ⟨⟨eb,bb,B,S,gr,cr,rls,tv,mv,ka,ks,kc,vals,rk,rfl,hMd⟩,k3⟩;have hPk:=HPO.out vals hMd.stable hMd.lay;rw [Hm.out] at hMd;obtain ⟨hE0,hL0⟩:=UW hMd hPk;have E0:=AD hE0;have PK:=AD hPk;have KE:=AD ((Kw.out.trans k2).trans k3);have hlow:w.heap.size≤W2.heap.size:=(Kw.out.trans k2).size;have Hlow:=AD hlow;have hto:=AD (fun (W:World) (n:Nat) (hs:List Bc) (hL:OJ WE W2.heap.size bb B gr cr rls tv mv ka ks kc (BY z (cl++CG z fl l0)) vals n (J1 z hs) W)=>UY hE0 hPk hz1 hz4 hL (dM hz1 hs));have HL0:=AD hL0;have HrowE:=AD (Hrow.out.keeps (k2.trans k3));clear hMd hPk hE0 hL0 hmd hp1 k2 k3 HPO hlow Hrow;go_wp2_with fail
     refine (hto.out _ 0 fl HL0.out).mono ?_;rintro e W4 ⟨⟨rk1,hx1,rfl⟩,k4⟩;have Hx1:=AD hx1;have hdi:=AD (NB (c:=xc) W4 (HrowE.out.keeps k4) (by rw [Hll.out];omega) hz1 hz8);rw [Hll.out] at hdi;have HL4:=AD (HL0.out.keep0 E0.out k4);have K4:=AD (KE.out.trans k4);have hsz4:WE.heap.size≤W4.heap.size:=k4.size;obtain ⟨was,hwas⟩:∃ was,Vb rk1 4=was:=⟨_,rfl⟩;have Hwas:=AD hwas;rw [hwas];clear hx1 k4 HL0 HrowE KE hwas;go_wp2_with fail
     refine hdi.out.mono ?_;rintro e W5 ⟨⟨v5,rfl,hv5⟩,k5⟩
     have HT5:Hid (QE WE.heap.size W5 v5 (.slice none 0 0) (hsT z fl ms 0) (ms.take 0)∧OJ WE W2.heap.size bb B gr cr rls tv mv ka ks kc (BY z (cl++CG z fl l0)) vals 0 (J1 z (hsT z fl ms 0)) W5∧AA [] w W5):=AD ⟨⟨EW hv5 hsz4,World.ownsRow_nil ..,fun j _ q=>by cases q⟩,by
      have:=HL4.out.keep0 E0.out k5;rw [←YA z fl] at this
      exact this,K4.out.trans k5⟩
     obtain ⟨xa5,xc5,hxv5⟩:=Aj hv5;subst hxv5;clear hv5 k5 HL4 K4 hdi;go_wp2_with fail
     go_loopw [16,17,18] (fun x y q wk=>∃ (j:Nat),q=.int .i64 j∧j≤M∧j≤12∧Hid (QE WE.heap.size wk x y (hsT z fl ms j) (ms.take j)∧OJ WE W2.heap.size bb B gr cr rls tv mv ka ks kc (BY z (cl++CG z fl l0)) vals j (J1 z (hsT z fl ms j)) wk∧AA [] w wk)) (fun _ _ q _=>((12:Int) - intOf q).toNat)
     case atStart=>exact ⟨0,rfl,CP _,CP _,HT5⟩
     case round=>
      clear HT5;obtain ⟨j,rfl,hjM,hj12,hJ⟩:=hrel;obtain ⟨HL,hHL⟩:∃ H,(hsT z fl ms j).length=H:=⟨_,rfl⟩;have hH22:HL≤22:=by have:=(KY z fl ms j).2.1;have:=Hll.out;omega
      have hyl:(ms.take j).length=j:=by rw [A5,HM.out];omega
      obtain ⟨xa6,xc6,hx6⟩:=Aj hJ.out.1.xr;obtain ⟨ya6,yc6,hy6⟩:=Aj hJ.out.1.yr;rw [hHL] at hx6;rw [hyl] at hy6;subst hx6 hy6;have HHL:=AD hHL;have Hyl:=AD hyl;clear hHL hyl;obtain ⟨cb,hcb⟩:∃ cb,decide (j<M∧j<12)=cb:=⟨_,rfl⟩;go_upto_region 15 with fail
      go_cut [80] (fun y wd=>y=.bool cb∧wd=wr)
      case first=>
       by_cases h1:j<M
       ·have h1I:(j:Int)<M:=(by omega);by_cases h2:j<12
        ·have h2I:(j:Int)<12:=(by omega);have hc:cb=true:=by rw [←hcb];simp [h1,h2]
         subst hc;clear hcb;go_wp2_with fail
         go_meet
         exact ⟨rfl,rfl⟩
        ·have h2I:¬ (j:Int)<12:=(by omega);have hc:cb=false:=by rw [←hcb];simp [h2]
         subst hc;clear hcb;go_wp2_with fail
         go_meet
         exact ⟨rfl,rfl⟩
       ·have h1I:¬ (j:Int)<M:=(by omega);have hc:cb=false:=by rw [←hcb];simp [h1]
        subst hc;clear hcb;go_wp2_with fail
        go_meet
        exact ⟨rfl,rfl⟩
      case rest=>
       obtain ⟨rfl,rfl⟩:=hcut;cases cb with
       | true=>
        obtain ⟨h1,h2⟩:=of_decide_eq_true hcb;have h1I:(j:Int)<M:=(by omega);clear hcb;obtain ⟨f,hf⟩:∃ f,ms[j]?=some f:=⟨_,AB (by have:=HM.out;omega)⟩;have hfm:=AF hf;have hfok:=Hok.out.2 f hfm;obtain ⟨gb,o,hav,hga⟩:=(Hms.out j f hf).2;subst hav;have p0:=BV hJ.out.2.2 hga.c0;have p1:=BV hJ.out.2.2 hga.c1;have Hga:=AD hga;have hft:=AD (GE wc (cap:=f.cap) hfok.lo hfok.hi (hfok.ints.keeps hJ.out.2.2) hz1 hz8 (M3 f.rel) (HB f.rel));have Hnx:=AD (AU hf (Uw z fl ms hf));have Hfok:=AD hfok;obtain ⟨kk,hkk⟩:∃ kk,kOf f.rel=kk:=⟨_,rfl⟩;have hkk4:kk<4:=by rw [←hkk];exact HB _
        rw [hkk] at hft;obtain ⟨l,hl⟩:∃ l,Cl z f.L kk=l:=⟨_,rfl⟩;have hll:l.length=relK kk:=by rw [←hl];simp [Cl]
        have hlz:∀ x∈l,x<z:=fun x hx=>by
         rw [←hl] at hx;obtain ⟨p,_,rfl⟩:=AR.1 hx;exact HQ hz1 f.L p
        rw [hl] at hft;have hfk:fk z f=(kk,l):=by unfold fk;rw [hkk,hl]
        have hdl:(J2 l).length=relK kk:=by unfold J2;rw [AZ];exact hll
        have Hl:=AD (AU hll (AU hlz (AU hdl hfk)));clear hkk hl hll hlz hdl hfk hga hf hfm hfok;go_wp2_with fail
        refine hft.out.mono ?_;rintro e W6 ⟨v,rfl,hv,k6⟩;obtain ⟨g,cap,hve,hg0,hrow⟩:∃ g cap,v=.slice (some ⟨g,0,none⟩) (relK kk) cap∧wc.heap.size≤g∧Bt W6 g (J2 l):=by
         obtain ⟨hll,hlz,hdl,hfk⟩:=Hl.out;obtain ⟨g,cap,a,b,c,d⟩:=IL (xs:=J2 l) (by rw [hdl,←hll];exact hv) (by rw [hdl];exact (Er kk).1);rw [hdl] at a;exact ⟨g,cap,a,b,c⟩
        subst hve;have hJ6:=AD (AU (hJ.out.1.keep0 k6) (AU (hJ.out.2.1.keep0 E0.out k6) (hJ.out.2.2.trans k6)));have p0:=BV hJ6.out.2.2 Hga.out.c0;have p1:=BV hJ6.out.2.2 Hga.out.c1;have hgE:WE.heap.size≤g:=by
         have:=hJ.out.2.1;obtain ⟨_,_,_,_,_,k,_⟩:=this;exact Ai k.size hg0
        have Hrow:=AD (AU hrow hgE)
        have ham:=AD (LU (c:=xc6) W6 (Kt (c:=xc6) (by rw [HHL.out];have:=hJ6.out.1.xr;rw [HHL.out] at this;exact this) (fun q hq=>by
         rcases (KY z fl ms j).2.2 q hq with h | h
         ·exact (Hok.out.1 q h).keeps hJ6.out.2.2
         ·exact (Hok.out.2 q h).keeps hJ6.out.2.2)) (by rw [HHL.out];omega) (Hfok.out.keeps hJ6.out.2.2) hz1 hz8)
        rw [HHL.out] at ham;unfold Ww at ham;clear hv k6 hrow hgE hg0 hft hJ;go_wp2_with fail
        refine ham.out.mono ?_;rintro e W7 ⟨rfl,k7⟩;have hJ7:=AD (AU (hJ6.out.1.keep0 k7) (AU (hJ6.out.2.1.keep0 E0.out k7) (hJ6.out.2.2.trans k7)));have hrow7:=AD (AU (Hrow.out.1.keepsE k7) Hrow.out.2);have p0:=BV hJ7.out.2.2 Hga.out.c0;have p1:=BV hJ7.out.2.2 Hga.out.c1;obtain ⟨HN,hHN⟩:∃ H,(hsT z fl ms (j+1)).length=H:=⟨_,rfl⟩;have hN22:HN≤23:=by have:=(KY z fl ms (j+1)).2.1;have:=Hll.out;omega
        have HHN:=AD hHN;clear k7 ham Hrow hJ6 hHN;go_upto_if 101 with fail
        go_cut [16,22,23] (fun xx _ ff wd=>ff=.int .i64 0∧∃ a c,xx=.slice a HN c∧Hid (QE WE.heap.size wd xx (.slice ya6 j yc6) (hsT z fl ms (j+1)) (ms.take j)∧OJ WE W2.heap.size bb B gr cr rls tv mv ka ks kc (BY z (cl++CG z fl l0)) vals (j+1) (J1 z (hsT z fl ms (j+1))) wd∧AA [] w wd))
        case first=>
         cases hm:TR z (hsT z fl ms j) f with
         | some p=>
          obtain ⟨ha1,ha2⟩:=Pt hm;have hpL:p<HL:=by rw [←HHL.out];exact ha1
          have HFp:=AD (GD.2 (show (kk,l)∈Dy z (hsT z fl ms j) by rw [←Hl.out.2.2.2];exact AF ha2));have hre:=AD (O5 (cap:=cap) E0.out hJ7.out.2.1 (by omega) hkk4 Hl.out.1 Hl.out.2.1 hrow7.out.1 hrow7.out.2);rw [Hl.out.1] at hre;have Hn2:Hid (hsT z fl ms (j+1)=(hsT z fl ms j).take p++(hsT z fl ms j).drop (p+1)):=AD (by rw [Hnx.out.2,TQ,hm]);have Htog:Hid (Va (J1 z (hsT z fl ms j)) (kk,l)=J1 z (hsT z fl ms (j+1))):=AD (by rw [Hnx.out.2,SD f (KY z fl ms j).1,Hl.out.2.2.2]);have hv:fG z (hsT z fl ms j) f=(p:Int):=by unfold fG;rw [hm]
          rw [hv];clear hm ha1 ha2 p0 p1 hv;go_wp2_with fail
          refine hre.out.mono ?_;rintro e W8 (⟨rfl,hno,k8⟩ | ⟨rfl,hyes,hL8,k8⟩)
          ·exact absurd HFp.out hno
          ·rw [Htog.out] at hL8;have hT8:=hJ7.out.1.keep k8 (fun q hq=>(E0.out.low q (AO _ hq)).2);have K8:AA [] w W8:=hJ7.out.2.2.trans_new k8 (fun q hq=>.inr (Ai Hlow.out (E0.out.low q (AO _ hq)).1));have xr8:=hT8.xr;rw [HHL.out] at xr8;obtain ⟨gx,hgx⟩:=Eu xr8 (by omega);subst hgx;have hcap:=bW xr8;have hWE:WE.heap.size≤W8.heap.size:=by
            obtain ⟨_,_,_,_,_,k,_⟩:=hL8;exact k.size
           have hpC:(p:Int)≤xc6:=(by omega);have hlen1:(DA ((hsT z fl ms j).take p)).length=p * 2:=by rw [Kz,A5,HHL.out];omega
           have hlen2:(DA ((hsT z fl ms j).drop (p+1))).length=(HL - (p+1)) * 2:=(by rw [Kz,List.length_drop,HHL.out]);have src1:=AD (eC xr8 p);have H8:=AD (AU hT8 (AU hL8 (AU K8 (AU xr8 hWE))));have Hlen:=AD (AU hlen1 hlen2);clear hT8 hL8 K8 xr8 hWE hlen1 hlen2 hyes k8 hre;go_wp2_with (at_builtin;refine wpList_append_own_at _ rfl _ _ 43 rfl W8.heap.size 51 i51 (.agg #[.int .i64 0,.slice none 0 0]) 2 32 underlying43 hi51 hza0 hza1 hza2 rfl (by decide) _ 0 [] rfl ⟨rfl,.inl ⟨rfl,rfl⟩⟩ ⟨gx,0,none⟩ p xc6 (DA ((hsT z fl ms j).take p)) rfl Hlen.out.1 src1.out M9 (by unfold maxLen;omega) (by omega) (AS _) ?_)
           intro v1 W9 own9 grow9 nil9 at9;have k9:=grownBy_keeps' grow9 [] (fun r e=>by simp [Value.ownBlock] at e);obtain ⟨a1,c1,hv1⟩:=Aj own9;subst hv1;have xr9:=AI H8.out.2.2.2.1 k9;have H9:=AD (AU own9 (AU k9 xr9));have hp1L:(p:Int)+1≤HL:=(by omega);have hb9:W8.heap.size≤W9.heap.size:=k9.size;clear own9 grow9 nil9 at9 k9 xr9 src1;by_cases hc1:xc6=p+1
           ·have src2:=AD (fun (q:Nat) (u:Value) (hu:(DA ((hsT z fl ms j).drop (p+1)))[q]?=some u)=>(by
             exfalso;have h1:=(AL.1 hu).1;have h2:=Hlen.out.2;rw [h2] at h1
             omega:W9.cell? ((⟨gx,0,none⟩:Addr).add q)=some u))
            go_wp2_with (at_builtin;refine wpList_append_own_at _ rfl _ _ 43 rfl W8.heap.size 51 i51 (.agg #[.int .i64 0,.slice none 0 0]) 2 32 underlying43 hi51 hza0 hza1 hza2 rfl (by decide) _ p _ rfl H9.out.1 ⟨gx,0,none⟩ (HL - (p+1)) _ (DA ((hsT z fl ms j).drop (p+1))) rfl Hlen.out.2 src2.out M9 (by unfold maxLen;omega) (by omega) hb9 ?_)
            intro v2 WA ownA growA nilA atA;have kA:=grownBy_keeps' growA (Aa (.slice a1 p c1)) (fun r e=>.inl (by simp [Aa,e]));have k8A:AA [] W8 WA:=H9.out.2.1.trans_new kA (fun q hq=>.inr (Am H9.out.1 q (by simpa [Aa] using hq)).1);have hlA:(hsT z fl ms (j+1)).length=p+(HL - (p+1)):=by rw [Hn2.out,AN,A5,List.length_drop,HHL.out];omega
            have hcA:DA (hsT z fl ms (j+1))=DA ((hsT z fl ms j).take p)++DA ((hsT z fl ms j).drop (p+1)):=(by rw [Hn2.out,K3]);have hrA:WA.ownsRow W8.heap.size 51 2 v2 (hsT z fl ms (j+1)).length (DA (hsT z fl ms (j+1))):=by rw [hlA,hcA];exact ownA
            have Hfin:Hid (QE WE.heap.size WA v2 (.slice ya6 j yc6) (hsT z fl ms (j+1)) (ms.take j)∧OJ WE W2.heap.size bb B gr cr rls tv mv ka ks kc (BY z (cl++CG z fl l0)) vals (j+1) (J1 z (hsT z fl ms (j+1))) WA∧AA [] w WA):=AD ⟨H8.out.1.new k8A (EW hrA H8.out.2.2.2.2) (fun q hq=>(Am hrA q hq).1),H8.out.2.1.keep0 E0.out k8A,H8.out.2.2.1.trans k8A⟩;obtain ⟨a9,c9,hv9⟩:=Aj Hfin.out.1.xr;rw [HHN.out] at hv9;subst hv9;clear ownA growA nilA atA kA k8A hlA hcA hrA;go_wp2_with fail
            go_meet
            exact ⟨rfl,_,_,rfl,Hfin⟩
           ·have src2:=AD (Zi H9.out.2.2 (i:=p+1) (by rw [HHL.out];omega));go_wp2_with (at_builtin;refine wpList_append_own_at _ rfl _ _ 43 rfl W8.heap.size 51 i51 (.agg #[.int .i64 0,.slice none 0 0]) 2 32 underlying43 hi51 hza0 hza1 hza2 rfl (by decide) _ p _ rfl H9.out.1 ⟨gx,(p+1) * 2,none⟩ (HL - (p+1)) _ (DA ((hsT z fl ms j).drop (p+1))) rfl Hlen.out.2 src2.out M9 (by unfold maxLen;omega) (by omega) hb9 ?_)
            intro v2 WA ownA growA nilA atA;have kA:=grownBy_keeps' growA (Aa (.slice a1 p c1)) (fun r e=>.inl (by simp [Aa,e]));have k8A:AA [] W8 WA:=H9.out.2.1.trans_new kA (fun q hq=>.inr (Am H9.out.1 q (by simpa [Aa] using hq)).1);have hlA:(hsT z fl ms (j+1)).length=p+(HL - (p+1)):=by rw [Hn2.out,AN,A5,List.length_drop,HHL.out];omega
            have hcA:DA (hsT z fl ms (j+1))=DA ((hsT z fl ms j).take p)++DA ((hsT z fl ms j).drop (p+1)):=(by rw [Hn2.out,K3]);have hrA:WA.ownsRow W8.heap.size 51 2 v2 (hsT z fl ms (j+1)).length (DA (hsT z fl ms (j+1))):=by rw [hlA,hcA];exact ownA
            have Hfin:Hid (QE WE.heap.size WA v2 (.slice ya6 j yc6) (hsT z fl ms (j+1)) (ms.take j)∧OJ WE W2.heap.size bb B gr cr rls tv mv ka ks kc (BY z (cl++CG z fl l0)) vals (j+1) (J1 z (hsT z fl ms (j+1))) WA∧AA [] w WA):=AD ⟨H8.out.1.new k8A (EW hrA H8.out.2.2.2.2) (fun q hq=>(Am hrA q hq).1),H8.out.2.1.keep0 E0.out k8A,H8.out.2.2.1.trans k8A⟩;obtain ⟨a9,c9,hv9⟩:=Aj Hfin.out.1.xr;rw [HHN.out] at hv9;subst hv9;clear ownA growA nilA atA kA k8A hlA hcA hrA;go_wp2_with fail
            go_meet
            exact ⟨rfl,_,_,rfl,Hfin⟩
         | none=>
          have hnF:¬ J1 z (hsT z fl ms j) kk l:=fun q=>Mb hm (by rw [Hl.out.2.2.2];exact GD.1 q);have had:=AD (Xy (cap:=cap) E0.out hJ7.out.2.1 rfl (by rw [HHL.out];omega) (by omega) hkk4 Hl.out.1 Hl.out.2.1 hnF hrow7.out.1 hrow7.out.2);rw [Hl.out.1] at had;have Hn2:Hid (hsT z fl ms (j+1)=hsT z fl ms j++[f]):=AD (by rw [Hnx.out.2,TQ,hm]);have Htog:Hid (Va (J1 z (hsT z fl ms j)) (kk,l)=J1 z (hsT z fl ms (j+1))):=AD (by rw [Hnx.out.2,SD f (KY z fl ms j).1,Hl.out.2.2.2]);have hv:fG z (hsT z fl ms j) f = -1:=by unfold fG;rw [hm]
          rw [hv];clear hm hnF p0 p1 hv;go_wp2_with fail
          refine had.out.mono ?_;rintro e W8 ⟨rfl,hL8,k8⟩;rw [Htog.out] at hL8;have hT8:=hJ7.out.1.keep k8 (fun q hq=>(E0.out.low q (AO _ hq)).2);have K8:AA [] w W8:=hJ7.out.2.2.trans_new k8 (fun q hq=>.inr (Ai Hlow.out (E0.out.low q (AO _ hq)).1));have p0:=BV K8 Hga.out.c0;have p1:=BV K8 Hga.out.c1;have kA:=AA.alloc [] W8 (.cells #[.int .i64 f.rel,.slice f.av f.L.length f.cap] 51);have hTA:=hT8.keep0 kA;have hLA:=hL8.keep0 E0.out kA;have hrow:=AD hTA.xr;rw [HHL.out] at hrow;have hone:=AD (Ja W8 f 51);have hbase:WE.heap.size≤(W8.alloc (.cells #[.int .i64 f.rel,.slice f.av f.L.length f.cap] 51)).heap.size:=by
           obtain ⟨_,_,_,_,_,k,_⟩:=hLA;exact k.size
          have H8:=AD (AU hTA (AU hLA (K8.trans kA)));clear hT8 hL8 K8 k8 kA hTA hLA had;go_wp2_with (at_builtin;refine wpList_append_own_at _ rfl _ _ 43 rfl WE.heap.size 51 i51 (.agg #[.int .i64 0,.slice none 0 0]) 2 32 underlying43 hi51 hza0 hza1 hza2 rfl (by decide) _ HL _ rfl hrow.out ⟨W8.heap.size,0,none⟩ 1 1 _ rfl (by rfl) hone.out (by simp [Gc,Value.oneCell']) (by unfold maxLen;omega) (by omega) hbase ?_)
          intro v9 W9 own9 grow9 nil9 at9;have k9:=grownBy_keeps' grow9 (Aa (.slice xa6 HL xc6)) (fun r e=>.inl (by simp [Aa,e]));have hl9:HN=HL+1:=by rw [←HHN.out,Hn2.out,AN,HHL.out];rfl
          have Hfin:Hid (QE WE.heap.size W9 v9 (.slice ya6 j yc6) (hsT z fl ms (j+1)) (ms.take j)∧OJ WE W2.heap.size bb B gr cr rls tv mv ka ks kc (BY z (cl++CG z fl l0)) vals (j+1) (J1 z (hsT z fl ms (j+1))) W9∧AA [] w W9):=AD ⟨H8.out.1.growX k9 (by rw [Hn2.out,Jb,AN,HHL.out];exact own9) (by rw [World.size_alloc];exact at9),H8.out.2.1.keep E0.out k9 (fun q hq=>(Am hrow.out q (by simpa [Aa] using hq)).1),H8.out.2.2.trans_new k9 (fun q hq=>.inr (Ai Hlow.out (Ai (Ai (E0.out.low _ CK).1 (Nat.le_of_lt (E0.out.low _ CK).2)) (Am hrow.out q (by simpa [Aa] using hq)).1)))⟩;obtain ⟨a9,c9,hv9⟩:=Aj Hfin.out.1.xr;rw [HHN.out] at hv9;subst hv9;clear own9 grow9 nil9 at9 k9 hl9;go_wp2_with fail
          go_meet
          exact ⟨rfl,_,_,rfl,Hfin⟩
        case rest=>
         obtain ⟨rfl,xa8,xc8,rfl,hJ8⟩:=hcut;have p0:=BV hJ8.out.2.2 Hga.out.c0;have p1:=BV hJ8.out.2.2 Hga.out.c1;have kA:=AA.alloc [] wc (.cells #[.int .i64 f.rel,.slice f.av f.L.length f.cap] 51);have hTA:=hJ8.out.1.keep0 kA;have hLA:=hJ8.out.2.1.keep0 E0.out kA;have hrow:=AD hTA.yr;rw [Hyl.out] at hrow;have hone:=AD (Ja wc f 51);have hbase:WE.heap.size≤(wc.alloc (.cells #[.int .i64 f.rel,.slice f.av f.L.length f.cap] 51)).heap.size:=by
          obtain ⟨_,_,_,_,_,k,_⟩:=hLA;exact k.size
         have H8:=AD (AU hTA (AU hLA (hJ8.out.2.2.trans kA)));have Htk:Hid (ms.take (j+1)=ms.take j++[f]):=AD (by rw [An,Hnx.out.1];rfl);clear kA hTA hLA hrow7 hJ7;go_wp2_with (at_builtin;refine wpList_append_own_at _ rfl _ _ 43 rfl WE.heap.size 51 i51 (.agg #[.int .i64 0,.slice none 0 0]) 2 32 underlying43 hi51 hza0 hza1 hza2 rfl (by decide) _ j _ rfl hrow.out ⟨wc.heap.size,0,none⟩ 1 1 _ rfl (by rfl) hone.out (by simp [Gc,Value.oneCell']) (by unfold maxLen;omega) (by omega) hbase ?_)
         intro v9 W9 own9 grow9 nil9 at9;have k9:=grownBy_keeps' grow9 (Aa (.slice ya6 j yc6)) (fun r e=>.inl (by simp [Aa,e]));have H9:Hid (QE WE.heap.size W9 (.slice xa8 HN xc8) v9 (hsT z fl ms (j+1)) (ms.take (j+1))∧OJ WE W2.heap.size bb B gr cr rls tv mv ka ks kc (BY z (cl++CG z fl l0)) vals (j+1) (J1 z (hsT z fl ms (j+1))) W9∧AA [] w W9):=AD ⟨H8.out.1.growY k9 (by rw [Htk.out,Jb,AN,Hyl.out];exact own9) (by rw [World.size_alloc];exact at9),H8.out.2.1.keep E0.out k9 (fun q hq=>(Am hrow.out q (by simpa [Aa] using hq)).1),H8.out.2.2.trans_new k9 (fun q hq=>.inr (Ai Hlow.out (Ai (Ai (E0.out.low _ CK).1 (Nat.le_of_lt (E0.out.low _ CK).2)) (Am hrow.out q (by simpa [Aa] using hq)).1)))⟩;obtain ⟨a9,c9,hv9⟩:=EI own9;subst hv9
         have hp2:=AD (hpr.out W9 H9.out.2.2 xa8 (hsT z fl ms (j+1)) xc8 (Kt (c:=xc8) (by rw [HHN.out];have:=H9.out.1.xr;rw [HHN.out] at this;exact this) (fun q hq=>by
          rcases (KY z fl ms (j+1)).2.2 q hq with h | h
          ·exact (Hok.out.1 q h).keeps H9.out.2.2
          ·exact (Hok.out.2 q h).keeps H9.out.2.2)) (by rw [HHN.out];omega))
         rw [HHN.out] at hp2;obtain ⟨s2,hs2⟩:∃ s,ba (Ah (EP z mU false rs (hsT z fl ms (j+1))))=s:=⟨_,rfl⟩;have hss2:s2.size≤9223372036854775807:=by rw [←hs2];exact Htx.out _ (by rw [HHN.out];omega)
         rw [hs2] at hp2;have Hs2:=AD hs2;clear own9 grow9 nil9 at9 k9 hs2 p0 p1 hone hbase hJ8 H8;cases hRd:EE s2 with
         | error f2=>
          have hmd:=AD (fun (W:World)=>Q6 (w:=W) s2 hss2 hRd);clear hRd;go_wp2_with fail
          refine hp2.out.mono ?_;rintro e W10 ⟨rfl,k10⟩;go_wp2_with fail
          refine (hmd.out _).mono ?_;rintro e W11 ⟨rfl,k11⟩;have H11:=AD (AU (H9.out.1.keep0 (k10.trans k11)) (AU (H9.out.2.1.keep0 E0.out (k10.trans k11)) (H9.out.2.2.trans (k10.trans k11))));clear k10 k11 H9 hp2 hmd;go_wp2_with fail
          refine (hto.out _ _ _ H11.out.2.1).mono ?_;rintro e W12 ⟨⟨rk2,hx2,rfl⟩,k12⟩;have H12:=AD (AU (H11.out.1.keep0 k12) (AU (H11.out.2.1.keep0 E0.out k12) (H11.out.2.2.trans k12)));clear k12 hx2 H11;go_wp2_with fail
          exact ⟨⟨j+1,by simp,by omega,by omega,H12⟩,by simp only [intOf];omega⟩
         | ok q2=>
          obtain ⟨toks2,m2⟩:=q2;have hRd':=hRd;rw [←Hs2.out] at hRd';obtain ⟨cl2,l2,hsen2,hm2,hPO2⟩:=NY hz1 hz8 cH hRd';have hcl:cl2=cl:=Zs (hsen2.symm.trans Hsen.out);subst hcl;have hmd:=AD (fun (W:World)=>ML (w:=W) s2 hss2 hRd (by rw [hm2];show 0<T6.length;decide));have HPO2:=AD hPO2;have Hm2:=AD hm2;clear hRd hRd' hsen2 hPO2 hm2;go_wp2_with fail
          refine hp2.out.mono ?_;rintro e W10 ⟨rfl,k10⟩;go_wp2_with fail
          refine (hmd.out _).mono ?_;rintro e WX ⟨⟨eb2,bb2,B2,S2,gr2,cr2,rls2,tv2,mv2,ka2,ks2,kc2,vals2,rk2,rfl,hMd2⟩,k11⟩;have hPk2:=HPO2.out vals2 hMd2.stable hMd2.lay;rw [Hm2.out] at hMd2;obtain ⟨hEX,hLX⟩:=UW hMd2 hPk2;have H11:=AD (AU (H9.out.1.keep0 (k10.trans k11)) (AU (H9.out.2.1.keep0 E0.out (k10.trans k11)) (H9.out.2.2.trans (k10.trans k11))));have EX:=AD (AU hEX (AU hPk2 hLX));clear k10 k11 H9 hp2 hmd hMd2 hPk2 hEX hLX HPO2;go_wp2_with fail
          refine (hto.out _ _ _ H11.out.2.1).mono ?_;rintro e W12 ⟨⟨rk3,hx3,rfl⟩,k12⟩;have H12:=AD (AU (H11.out.1.keep0 k12) (AU (H11.out.2.1.keep0 E0.out k12) (H11.out.2.2.trans k12)));have htX:=AD (UY EX.out.1 EX.out.2.1 hz1 hz4 (EX.out.2.2.keep0 EX.out.1 k12) (dM hz1 _));obtain ⟨now,hnow⟩:∃ now,Vb rk3 4=now:=⟨_,rfl⟩;have Hx3:=AD (AU hx3 hnow);rw [hnow];clear k12 hx3 H11 hnow;go_wp2_with fail
          refine htX.out.mono ?_;rintro e W13 ⟨⟨rk4,hx4,rfl⟩,k13⟩;have hsame:Vb rk4 4=now:=(EX.out.2.1.same PK.out hx4 Hx3.out.1).trans Hx3.out.2;rw [hsame];have H13:=AD (AU (H12.out.1.keep0 k13) (AU (H12.out.2.1.keep0 E0.out k13) (H12.out.2.2.trans k13)));clear k13 hx4 H12 hsame htX;go_wp2_with fail
          exact ⟨⟨j+1,by simp,by omega,by omega,H13⟩,by simp only [intOf];omega⟩
       | false=>
        clear hcb;have hy7:=hJ.out.1.yr;rw [Hyl.out] at hy7;have H7:Hid (wc.ownsRow WE.heap.size 51 2 (.slice ya6 j yc6) j (DA (ms.take j))∧OJ WE W2.heap.size bb B gr cr rls tv mv ka ks kc (BY z (cl++CG z fl l0)) vals (j+(j - j)) (J1 z (hsT z fl ms j)) wc∧AA [] w wc):=AD ⟨hy7,by rw [Nat.sub_self,CB];exact hJ.out.2.1,hJ.out.2.2⟩;clear hy7 hJ;go_wp2_with fail
        go_loopw [30] (fun q wk=>∃ (t:Int) (i:Nat),q=.int .i64 t∧t=(i:Int) - 1∧i≤j∧Hid (wk.ownsRow WE.heap.size 51 2 (.slice ya6 j yc6) j (DA (ms.take j))∧OJ WE W2.heap.size bb B gr cr rls tv mv ka ks kc (BY z (cl++CG z fl l0)) vals (j+(j - i)) (J1 z (hsT z fl ms i)) wk∧AA [] w wk)) (fun q _=>(intOf q+1).toNat)
        case atStart=>exact ⟨_,j,rfl,rfl,AS _,H7⟩
        case round=>
         clear H7;obtain ⟨t,i2,rfl,ht,hij,hK⟩:=hrel;cases i2 with
         | zero=>
          have ht2:t = -1:=(by omega);subst ht2;clear ht;go_wp2_with fail
          refine (hto.out _ _ _ hK.out.2.1).mono ?_;rintro e W12 ⟨⟨rk3,hx3,rfl⟩,k12⟩;have hsame:Vb rk3 4=was:=by
           have e0:J1 z (hsT z fl ms 0)=J1 z fl:=YA z fl;rw [e0] at hx3;exact (PK.out.same PK.out hx3 Hx1.out).trans Hwas.out
          rw [hsame];have HF2:=AD (hK.out.2.2.trans k12);clear k12 hx3 hsame;go_wp2_with fail
          go_ret
          exact ⟨rfl,HF2.out⟩
         | succ i2=>
          have ht2:t=(i2:Int):=(by omega);subst ht2;clear ht;obtain ⟨f,hf⟩:∃ f,ms[i2]?=some f:=⟨_,AB (by have:=HM.out;omega)⟩;have hft2:(ms.take j)[i2]?=some f:=by rw [List.getElem?_take_of_lt (by omega)];exact hf
          obtain ⟨gy,hgy⟩:=Eu hK.out.1 (by omega);subst hgy;have hfok:=Hok.out.2 f (AF hf);have at_:∀ q v,q<2→(Gc f)[q]?=some v→wr.cell? ⟨gy,i2 * 2+q,none⟩=some v:=fun q v hq hv=>BI hK.out.1 (by rw [DA,PI (n:=2) (fun _=>rfl) hft2 hq];exact hv);have p0:=at_ 0 _ (by omega) rfl;have p1:=at_ 1 _ (by omega) rfl;rw [CB] at p0;have hft:=AD (GE wr (cap:=f.cap) hfok.lo hfok.hi (hfok.ints.keeps hK.out.2.2) hz1 hz8 (M3 f.rel) (HB f.rel));have Hnx:=AD (Uw z fl ms hf);obtain ⟨kk,hkk⟩:∃ kk,kOf f.rel=kk:=⟨_,rfl⟩;have hkk4:kk<4:=by rw [←hkk];exact HB _
          rw [hkk] at hft;obtain ⟨l,hl⟩:∃ l,Cl z f.L kk=l:=⟨_,rfl⟩;have hll:l.length=relK kk:=by rw [←hl];simp [Cl]
          have hlz:∀ x∈l,x<z:=fun x hx=>by
           rw [←hl] at hx;obtain ⟨p,_,rfl⟩:=AR.1 hx;exact HQ hz1 f.L p
          rw [hl] at hft;have hfk:fk z f=(kk,l):=by unfold fk;rw [hkk,hl]
          have hdl:(J2 l).length=relK kk:=by unfold J2;rw [AZ];exact hll
          have Htog:Hid (Va (J1 z (hsT z fl ms (i2+1))) (kk,l)=J1 z (hsT z fl ms i2)):=AD (by rw [Hnx.out,SD f (KY z fl ms i2).1,hfk,Yc]);have Hl:=AD (AU hll (AU hlz hdl));have hlen:(hsT z fl ms (i2+1)).length<60:=by have:=(KY z fl ms (i2+1)).2.1;have:=Hll.out;omega
          have Hlen:=AD hlen;have hjs:j+(j - (i2+1))+1=j+(j - i2):=(by omega);have Hjs:=AD hjs;clear hkk hl hll hlz hdl hfk hf hft2 hfok at_ hlen hjs;go_wp2_with fail
          refine hft.out.mono ?_;rintro e W6 ⟨v,rfl,hv,k6⟩;obtain ⟨g,cap,hve,hg0,hrow⟩:∃ g cap,v=.slice (some ⟨g,0,none⟩) (relK kk) cap∧wr.heap.size≤g∧Bt W6 g (J2 l):=by
           obtain ⟨hll,hlz,hdl⟩:=Hl.out;obtain ⟨g,cap,a,b,c,d⟩:=IL (xs:=J2 l) (by rw [hdl,←hll];exact hv) (by rw [hdl];exact (Er kk).1);rw [hdl] at a;exact ⟨g,cap,a,b,c⟩
          subst hve;have hK6:=AD (AU (AI hK.out.1 k6) (AU (hK.out.2.1.keep0 E0.out k6) (hK.out.2.2.trans k6)));have hgE:WE.heap.size≤g:=by
           obtain ⟨_,_,_,_,_,k,_⟩:=hK.out.2.1;exact Ai k.size hg0
          have Hrow:=AD (AU hrow hgE);have hre:=AD (O5 (cap:=cap) E0.out hK6.out.2.1 (by omega) hkk4 Hl.out.1 Hl.out.2.1 hrow hgE);rw [Hl.out.1] at hre;clear hv k6 hrow hgE hg0 hft hK p0 p1;go_wp2_with fail
          refine hre.out.mono ?_;rintro e W8 (⟨rfl,hno,k8⟩ | ⟨rfl,hyes,hL8,k8⟩)
          ·have hK8:=AD (AU (AI hK6.out.1 k8) (AU (hK6.out.2.1.keep0 E0.out k8) (hK6.out.2.2.trans k8)));have had:=AD (Xy (cap:=cap) E0.out hK8.out.2.1 rfl Hlen.out (by omega) hkk4 Hl.out.1 Hl.out.2.1 hno (Hrow.out.1.keepsE k8) Hrow.out.2);rw [Hl.out.1] at had;clear hno k8 hre;go_wp2_with fail
           refine had.out.mono ?_;rintro e W9 ⟨rfl,hL9,k9⟩;rw [Htog.out,Hjs.out] at hL9;have Hfin:Hid (W9.ownsRow WE.heap.size 51 2 (.slice (some ⟨gy,0,none⟩) j yc6) j (DA (ms.take j))∧OJ WE W2.heap.size bb B gr cr rls tv mv ka ks kc (BY z (cl++CG z fl l0)) vals (j+(j - i2)) (J1 z (hsT z fl ms i2)) W9∧AA [] w W9):=AD ⟨AI hK8.out.1 k9 (fun q hq hm=>by have:=(Am hK8.out.1 q hq).1;have:=(E0.out.low q (AO _ hm)).2;omega),hL9,hK8.out.2.2.trans_new k9 (fun q hq=>.inr (Ai Hlow.out (E0.out.low q (AO _ hq)).1))⟩;clear hL9 k9 had;go_wp2_with fail
           exact ⟨⟨_,i2,rfl,rfl,by omega,Hfin⟩,by simp only [intOf];omega⟩
          ·rw [Htog.out,Hjs.out] at hL8;have Hfin:Hid (W8.ownsRow WE.heap.size 51 2 (.slice (some ⟨gy,0,none⟩) j yc6) j (DA (ms.take j))∧OJ WE W2.heap.size bb B gr cr rls tv mv ka ks kc (BY z (cl++CG z fl l0)) vals (j+(j - i2)) (J1 z (hsT z fl ms i2)) W8∧AA [] w W8):=AD ⟨AI hK6.out.1 k8 (fun q hq hm=>by have:=(Am hK6.out.1 q hq).1;have:=(E0.out.low q (AO _ hm)).2;omega),hL8,hK6.out.2.2.trans_new k8 (fun q hq=>.inr (Ai Hlow.out (E0.out.low q (AO _ hq)).1))⟩;clear hL8 k8 hyes hre;go_wp2_with fail
           exact ⟨⟨_,i2,rfl,rfl,by omega,Hfin⟩,by simp only [intOf];omega⟩
end
end Go.Proofs.YtgjomknpjigkhaaGreatDoor
