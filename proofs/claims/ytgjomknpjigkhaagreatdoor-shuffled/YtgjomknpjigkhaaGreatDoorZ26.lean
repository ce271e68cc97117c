import Derived.Test.YtgjomknpjigkhaaGreatDoorZ25
namespace Go.Proofs.YtgjomknpjigkhaaGreatDoor
open Go.Proofs.Tryz
set_option maxRecDepth 100000
set_option maxHeartbeats 4000000
section
open Go.RowKit
theorem RC {w:World} {base p:Nat} {toks:List Tn} {m:Mean} {vals:List Nat} {rv cl tv:Value} {rvs kvs:List Value} (h:HB w base p toks m vals rv cl tv rvs kvs) (hf:Dt m) (h0:0<m.rels.length):Calls prog 37 #[.pointer (some ⟨p,0,none⟩)] w (WkTo base m vals w):=by
 obtain ⟨i5,hi5,hy0,hy1,hy2⟩:=info_parts iX;obtain ⟨i4,hi4,hx0,hx1,hx2⟩:=info_parts Xp;have hmk:=AD (fun (W:World)=>Y1 (w:=W) 12 (by omega) (by omega));obtain ⟨ar,cr0,hrv⟩:=Al h.rels;obtain ⟨ac,cc0,hcv⟩:=Al h.cls;subst hrv hcv;obtain ⟨gR,hgR⟩:=Fr h.rels h0;subst hgR;have h6:=hf.ok.rels;have h52:=hf.ok.clauses;go_in
 go_wp2_with fail
 refine (hmk.out _).mono ?_;rintro e W1 ⟨B,rfl,hst,hown,hco,k1⟩;have hE1:=DB.mk0 hst hco;have kb:=AA.alloc [] W1 (.cells #[.slice none 0 0,.map none,.slice none 0 0,.slice none 0 0,.pointer (some ⟨B.b,0,none⟩)] 142);have hb:=AK.new W1 #[.slice none 0 0,.map none,.slice none 0 0,.slice none 0 0,.pointer (some ⟨B.b,0,none⟩)] 142;have zb:=AX W1 (.cells #[.slice none 0 0,.map none,.slice none 0 0,.slice none 0 0,.pointer (some ⟨B.b,0,none⟩)] 142);have hEb:=hE1.keeps0 kb;have hBlt:∀ i∈B.own,i<W1.heap.size:=hE1.sat.lt;have kw:=k1.trans kb;have hz1:=k1.size;generalize hWb:W1.alloc (.cells #[.slice none 0 0,.map none,.slice none 0 0,.slice none 0 0,.pointer (some ⟨B.b,0,none⟩)] 142)=Wb at *;have p0:=(h.cells.keeps kw).cell 0;have p1:=(h.cells.keeps kw).cell 1;simp at p0 p1;have Hz1:=AD hz1;have Hzb:=AD zb;clear hz1 zb;go_wp2_with fail
 go_loopw [17] (fun y wr=>∃ (j:Nat) (rs:List BF) (tv mv rv:Value),y=.int .i64 j∧j≤m.rels.length∧Mk1 w wr base W1.heap.size B (EF m vals) j rs tv mv rv∧AA [W1.heap.size] Wb wr) (fun y _=>((m.rels.length:Int) - intOf y).toNat)
 case atStart=>exact ⟨0,[],_,_,_,rfl,by omega,⟨hb,hEb,hBlt,⟨World.ownsRow_nil ..,fun j hj=>by simp [Value.ownBlock] at hj,.inl ⟨rfl,rfl⟩⟩,World.ownsRow_nil ..,rfl,fun r hr=>by simp at hr,by simp,fun i r q hi=>by simp at hi⟩,AA.refl _ _⟩
 case round=>
  obtain ⟨j,rs,tv,mv,rv,rfl,hj,hM,hk⟩:=hrel;by_cases hjl:j<m.rels.length
  ·have hjI:(j:Int)<m.rels.length:=(by omega);have hlenM:(EF m vals).length=m.rels.length:=(by simp [EF]);obtain ⟨q,hq⟩:∃ q,(EF m vals)[j]?=some q:=⟨_,AB (by omega)⟩;obtain ⟨v,c0,c1,c2,hov⟩:=h.relsA.at hq;obtain ⟨sa,sc,hv⟩:=Al hov;subst hv;have kwr:AA [] w wr:=kw.trans_new hk (fun i hi=>.inr (by simp only [AF] at hi;have:=Hz1.out;omega));have hrk:=AH h.rels kwr;have q0:=BL hrk c0;have q1:=BL hrk c1;have q2:=BL hrk c2;have hname:=bU hf.ok hq;have kR:=AA.alloc [] wr (.cells #[.string q.name,.slice sa q.sizes.length sc,.int .i64 (q.layer:Int)] 144);have hR:=AK.new wr #[.string q.name,.slice sa q.sizes.length sc,.int .i64 (q.layer:Int)] 144;have zR:=AX wr (.cells #[.string q.name,.slice sa q.sizes.length sc,.int .i64 (q.layer:Int)] 144);generalize hWR:wr.alloc (.cells #[.string q.name,.slice sa q.sizes.length sc,.int .i64 (q.layer:Int)] 144)=WR at *;have d0:=hR.cell 0;have d1:=hR.cell 1;have d2:=hR.cell 2;simp at d0 d1 d2;have hbbR:=hM.cells.keeps kR;have kD:=AA.drew [] WR
   have hadd:=AD (Kk (w:=WR.drew) (s:=q.name) (hbbR.keeps kD) (o:=0) rfl rfl (X:=W1.heap.size :: rs.map (·.rm)) (by simp) (fun i hi=>by
    rw [show WR.drew.heap.size=WR.heap.size from rfl,zR];rcases AG.1 hi with rfl | hi
    ·have:=hM.cells.lt;omega
    ·obtain ⟨r,hr,rfl⟩:=AM.1 hi
     have:=(hM.maps r hr).1.lt;omega) (by rw [show WR.drew.heap.size=WR.heap.size from rfl,zR];have:=hM.cells.lt;omega) ((hM.set.keeps kR).keeps kD) (by simp;omega) hname)
   go_wp2_with fail
   refine Fc 5 (by kernel_rfl) (by kernel_rfl) ?_;simp only [CR,DW,CT,BV];repeat (go_big_quiet_step (fail))
   refine wpQuiet_nil ?_;go_wp2_with fail
   refine hadd.out.mono ?_;rintro e W2 ⟨rfl,⟨tv',mv',hc',hs',ho1,ho2⟩,T,kT,hT⟩;have hc2:AK W2 W1.heap.size #[tv',mv',rv,.slice none 0 0,.pointer (some ⟨B.b,0,none⟩)]:=(by simpa using hc');have kRD:=kR.trans kD;have hrowD:=AH hM.row kRD;have hsetD:=(hM.set.keeps kRD);have hgv:∀ i,rv.ownBlock=some i→i∉T:=fun i hi hm=>by
    rcases hT i hm with rfl | h2 | h2
    ·have:=(As hM.row _ hi).1;omega
    ·exact Kd hM.row hM.set.row (by decide) i hi h2
    ·obtain ⟨_,cs,t,hh⟩:=As hM.row i hi;rcases hM.set.map with ⟨h3,_⟩ | ⟨r3,h3,h4,_⟩
     ·rw [h3] at h2;cases h2
     ·rw [h3] at h2;cases h2;obtain ⟨_,_,h5,_⟩:=h4;rw [hh] at h5;cases h5
   have hTlt:∀ i∈T,W1.heap.size≤i∧i<wr.heap.size:=fun i hm=>by
    rcases hT i hm with rfl | h2 | h2
    ·exact ⟨AQ _,hM.cells.lt⟩
    ·have:=Bd hM.set.row i h2;omega
    ·rcases hM.set.map with ⟨h3,_⟩ | ⟨r3,h3,h4,h5,_⟩
     ·rw [h3] at h2;cases h2
     ·rw [h3] at h2;cases h2;have:=h4.lt;omega
   have hrmT:∀ r∈rs,r.rm∉T:=fun r hr hm=>by
    rcases hT _ hm with h2 | h2 | h2
    ·have:=(hM.maps r hr).2;omega
    ·obtain ⟨_,cs,t,hh⟩:=As hM.set.row _ h2;obtain ⟨_,_,h5,_⟩:=(hM.maps r hr).1;rw [hh] at h5;cases h5
    ·rcases hM.set.map with ⟨h3,_⟩ | ⟨r3,h3,h4,h5,h6,_⟩
     ·rw [h3] at h2;cases h2
     ·rw [h3] at h2;cases h2;exact h6 (by simp only [AG,AM];exact .inr ⟨r,hr,rfl⟩)
   have hrow2:=AH hrowD kT hgv;have hE2:=(hM.eng.keeps0 kRD).keeps kT (fun i hi hm=>by have:=hM.ownB i hi;have:=hTlt i hm;omega);have hR2:=(hR.keeps kD).keeps kT (fun hm=>by have:=hTlt _ hm;omega);have hm2:∀ r∈rs,Bi eI eI W2 r.rm []:=fun r hr=>(((hM.maps r hr).1.kept kRD (by simp)).kept kT (hrmT r hr))
   have kb2:AA [W1.heap.size] Wb W2:=(hk.trans (kRD.mono (by simp))).trans_new kT (fun i hi=>by
    by_cases e:i=W1.heap.size
    ·exact .inl (by simp [e])
    ·exact .inr (by have:=hTlt i hi;have:=Hzb.out;omega))
   have z2:wr.heap.size+1≤W2.heap.size:=by have:=kT.size;rw [show WR.drew.heap.size=WR.heap.size from rfl,zR] at this;exact this
   have Hj:=AD (Ak hM hs');have Ho1:=AD (Ak ho1 ho2);have HTl:=AD hTlt;clear hM hs' ho1 ho2 hc' hT kT hgv hTlt hrmT hrowD hsetD hadd hR d0 d1 d2 q0 q1 q2 hbbR kRD kD;obtain ⟨ry,rc,hry⟩:=Al hrow2;subst hry;have b2:=hc2.cell 2;have e1:=hR2.cell 1;have e2:=hR2.cell 2;simp at b2 e1 e2;have HF1:Hid (W2.drew.cell? ⟨W1.heap.size,2,none⟩=some (.slice ry rs.length rc)∧W2.drew.cell? ⟨wr.heap.size,1,none⟩=some (.slice sa q.sizes.length sc)∧W2.drew.cell? ⟨wr.heap.size,2,none⟩=some (.int .i64 (q.layer:Int))):=AD ⟨b2,e1,e2⟩;clear b2 e1 e2;go_upto_region 6 with fail
   refine HO 15 (fun w'=>w'.cell? ⟨W1.heap.size,2,none⟩=some (.slice ry rs.length rc)∧w'.cell? ⟨wr.heap.size,1,none⟩=some (.slice sa q.sizes.length sc)∧w'.cell? ⟨wr.heap.size,2,none⟩=some (.int .i64 (q.layer:Int))) (by kernel_rfl) ?_;refine A3 0 (v:=?_) rfl (by kernel_rfl) (by kernel_rfl) (by kernel_rfl) (by kernel_rfl) (fun _ _ _ h=>h) (BX ⟨by rfl,?_⟩) HF1.out ?_;rotate_left
   ·(intro w' hSw;obtain ⟨s1,s2,s3⟩:=hSw;go_simp;try with_reducible rfl)
   simp only [Act.put,AI,AS,AR];refine A3 1 (v:=?_) rfl (by kernel_rfl) (by kernel_rfl) (by kernel_rfl) (by kernel_rfl) (fun _ _ _ h=>h) (BX ⟨by rfl,?_⟩) HF1.out ?_;rotate_left
   ·(intro w' hSw;obtain ⟨s1,s2,s3⟩:=hSw;go_simp;try with_reducible rfl)
   simp only [Act.put,AI,AS,AR];refine A3 2 (v:=?_) rfl (by kernel_rfl) (by kernel_rfl) (by kernel_rfl) (by kernel_rfl) (fun _ _ _ h=>h) (BX ⟨by rfl,?_⟩) HF1.out ?_;rotate_left
   ·(intro w' hSw;obtain ⟨s1,s2,s3⟩:=hSw;go_simp;try with_reducible rfl)
   simp only [Act.put,AI,AS,AR];refine A3 3 (v:=?_) rfl (by kernel_rfl) (by kernel_rfl) (by kernel_rfl) (by kernel_rfl) (fun _ _ _ h=>h) (BX ⟨by rfl,?_⟩) HF1.out ?_;rotate_left
   ·(intro w' hSw;obtain ⟨s1,s2,s3⟩:=hSw;go_simp;try with_reducible rfl)
   simp only [Act.put,AI,AS,AR];refine A3 4 (v:=?_) rfl (by kernel_rfl) (by kernel_rfl) (by kernel_rfl) (by kernel_rfl) (fun _ _ _ h=>h) (BX ⟨by rfl,?_⟩) HF1.out ?_;rotate_left
   ·(intro w' hSw;obtain ⟨s1,s2,s3⟩:=hSw;go_simp;try with_reducible rfl)
   simp only [Act.put,AI,AS,AR];refine A3 5 (v:=?_) rfl (by kernel_rfl) (by kernel_rfl) (by kernel_rfl) (by kernel_rfl) (fun _ _ _ h=>h) (BX ⟨by rfl,?_⟩) HF1.out ?_;rotate_left
   ·(intro w' hSw;obtain ⟨s1,s2,s3⟩:=hSw;go_simp;try with_reducible rfl)
   simp only [Act.put,AI,AS,AR];refine A3 6 (v:=?_) rfl (by kernel_rfl) (by kernel_rfl) (by kernel_rfl) (by kernel_rfl) (fun _ _ _ h=>h) (BX ⟨by rfl,?_⟩) HF1.out ?_;rotate_left
   ·(intro w' hSw;obtain ⟨s1,s2,s3⟩:=hSw;go_simp;try with_reducible rfl)
   simp only [Act.put,AI,AS,AR];refine A3 7 (v:=?_) rfl (by kernel_rfl) (by kernel_rfl) (by kernel_rfl) (by kernel_rfl) (fun _ _ _ h=>h) (BX ⟨by rfl,?_⟩) HF1.out ?_;rotate_left
   ·(intro w' hSw;obtain ⟨s1,s2,s3⟩:=hSw;go_simp;try with_reducible rfl)
   simp only [Act.put,AI,AS,AR];refine A3 8 (v:=?_) rfl (by kernel_rfl) (by kernel_rfl) (by kernel_rfl) (by kernel_rfl) (fun _ _ _ h=>h) (BX ⟨by rfl,?_⟩) HF1.out ?_;rotate_left
   ·(intro w' hSw;obtain ⟨s1,s2,s3⟩:=hSw;go_simp;try with_reducible rfl)
   simp only [Act.put,AI,AS,AR];have hmm:=@run_makeMap prog;have kM:=AA.alloc [] W2 (.map #[] 0);have hMp:Bi eI eI (W2.alloc (.map #[] 0)) W2.heap.size ([]:List (Int×Int)):=Bi.new W2 0;have zM:(W2.alloc (.map #[] 0)).heap.size=W2.heap.size+1:=size_alloc' W2 (.map #[] 0);have kA:=AA.alloc [] (W2.alloc (.map #[] 0)) (.cells #[.slice sa q.sizes.length sc,.int .i64 (q.layer:Int),.int .i64 0,.int .i64 0,.map (some W2.heap.size)] 148);have zA:((W2.alloc (.map #[] 0)).alloc (.cells #[.slice sa q.sizes.length sc,.int .i64 (q.layer:Int),.int .i64 0,.int .i64 0,.map (some W2.heap.size)] 148)).heap.size=W2.heap.size+1+1:=(by rw [AX,zM]);have HF2:Hid ((W2.alloc (.map #[] 0)).drew.cell? ⟨W1.heap.size,2,none⟩=some (.slice ry rs.length rc)∧(W2.alloc (.map #[] 0)).drew.cell? ⟨wr.heap.size,1,none⟩=some (.slice sa q.sizes.length sc)∧(W2.alloc (.map #[] 0)).drew.cell? ⟨wr.heap.size,2,none⟩=some (.int .i64 (q.layer:Int))):=AD ⟨by have:=(hc2.keeps kM).cell 2;simpa using this,by have:=(hR2.keeps kM).cell 1;simpa using this,by have:=(hR2.keeps kM).cell 2;simpa using this⟩;have kMA:=kM.trans kA;have HF3:Hid (((W2.alloc (.map #[] 0)).alloc (.cells #[.slice sa q.sizes.length sc,.int .i64 (q.layer:Int),.int .i64 0,.int .i64 0,.map (some W2.heap.size)] 148)).drew.cell? ⟨W1.heap.size,2,none⟩=some (.slice ry rs.length rc)∧((W2.alloc (.map #[] 0)).alloc (.cells #[.slice sa q.sizes.length sc,.int .i64 (q.layer:Int),.int .i64 0,.int .i64 0,.map (some W2.heap.size)] 148)).drew.cell? ⟨wr.heap.size,1,none⟩=some (.slice sa q.sizes.length sc)∧((W2.alloc (.map #[] 0)).alloc (.cells #[.slice sa q.sizes.length sc,.int .i64 (q.layer:Int),.int .i64 0,.int .i64 0,.map (some W2.heap.size)] 148)).drew.cell? ⟨wr.heap.size,2,none⟩=some (.int .i64 (q.layer:Int))):=AD ⟨by have:=(hc2.keeps kMA).cell 2;simpa using this,by have:=(hR2.keeps kMA).cell 1;simpa using this,by have:=(hR2.keeps kMA).cell 2;simpa using this⟩;refine Bs 9 (by kernel_rfl) rfl ?_;intro K hK;have HK:=AD hK;clear hK;rw [if_pos (by rfl)];go_simp
   refine HK.out _ _ (fun _=>HF2.out) ?_;clear HK;try simp only [Act.put,AI,AS,AR]
   refine Bs 10 (by kernel_rfl) rfl ?_;intro K hK;have HK:=AD hK;clear hK;rw [if_pos (by rfl)];go_simp
   refine HK.out _ _ (fun _=>HF2.out) ?_;clear HK;try simp only [Act.put,AI,AS,AR]
   refine Bs 11 (by kernel_rfl) rfl ?_;intro K hK;have HK:=AD hK;clear hK;rw [if_pos (by rfl)];go_simp
   refine HK.out _ _ (fun _=>HF3.out) ?_;clear HK;try simp only [Act.put,AI,AS,AR]
   have five:=Uo (W:=W2.alloc (.map #[] 0)) (a:=.slice sa q.sizes.length sc) (b:=.int .i64 (q.layer:Int)) (c:=.int .i64 0) (d:=.int .i64 0) (e:=.map (some W2.heap.size)) (t:=148);rw [zM] at five;have hrl:rs.length=j:=Hj.out.1.len;have hbb:=Hj.out.1.cells.lt;refine Bs 12 (by kernel_rfl) rfl ?_;intro K hK;have HK:=AD hK;clear hK;refine step_append_lies _ (by rfl) _ _ _ (by rfl) (W1.heap.size+1) 148 i5 _ 5 56 underlying140 hi5 hy0 hy1 hy2 rfl (by omega) (.slice ry rs.length rc) rs.length (L5 rs) (by rfl) (AH hrow2 (kMA.trans (AA.drew [] _))) ⟨W2.heap.size+1,0,none⟩ 1 1 [.slice sa q.sizes.length sc,.int .i64 (q.layer:Int),.int .i64 0,.int .i64 0,.map (some W2.heap.size)] (by rfl) (by rfl) five (by simp [Value.oneCell']) (by omega) (by unfold maxLen;omega) (by omega) (by show _≤(((W2.alloc (.map #[] 0)).alloc (.cells #[.slice sa q.sizes.length sc,.int .i64 (q.layer:Int),.int .i64 0,.int .i64 0,.map (some W2.heap.size)] 148))).heap.size;rw [zA];omega) (W2.heap.size+1+1) zA ?_;intro g9 cap9 w9 hown9 hgrow hat hlt9;have k9:=grownBy_keeps' hgrow (Aa (.slice ry rs.length rc)) (fun r e=>.inl (by simp [Aa,e]));have hlow:∀ i∈Aa (.slice ry rs.length rc),W1.heap.size+1≤i∧i<wr.heap.size:=fun i hi=>Bd Hj.out.1.row i (by simpa [Aa] using hi);have hcM:=(hc2.keeps kMA).keeps (AA.drew [] _);have hc9:=hcM.keeps k9 (fun hm=>by have:=hlow _ hm;omega);have hR9:=((hR2.keeps kMA).keeps (AA.drew [] _)).keeps k9 (fun hm=>by have:=hlow _ hm;omega);have e0:=hc9.cell 2;have f0:=hc9.frozen 2;simp at e0;have HF4:Hid (w9.cell? ⟨W1.heap.size,2,none⟩=some (.slice ry rs.length rc)∧w9.cell? ⟨wr.heap.size,1,none⟩=some (.slice sa q.sizes.length sc)∧w9.cell? ⟨wr.heap.size,2,none⟩=some (.int .i64 (q.layer:Int))):=AD ⟨e0,by have:=hR9.cell 1;simpa using this,by have:=hR9.cell 2;simpa using this⟩;have kS:=AA.setCell w9 ⟨W1.heap.size,2,none⟩ (.slice (some ⟨g9,0,none⟩) (rs.length+1) cap9);have hcS:=hc9.setCell 2 (.slice (some ⟨g9,0,none⟩) (rs.length+1) cap9);have kMD:=kMA.trans (AA.drew [] _);have kAll:AA (W1.heap.size :: Aa (.slice ry rs.length rc)) W2 (w9.setCell ⟨W1.heap.size,2,none⟩ (.slice (some ⟨g9,0,none⟩) (rs.length+1) cap9)):=((kMD.mono (by simp)).trans (k9.mono (fun i hi=>AP _ hi))).trans (kS.mono (by simp));have hrr:∀ i∈Aa (.slice ry rs.length rc),∃ cs t,W2.heap[i]?=some (.cells cs t (0,0)):=fun i hi=>(As hrow2 i (by simpa [Aa] using hi)).2
   have HMk:Hid (Mk1 w (w9.setCell ⟨W1.heap.size,2,none⟩ (.slice (some ⟨g9,0,none⟩) (rs.length+1) cap9)) base W1.heap.size B (EF m vals) (j+1) (rs++[⟨sa,q.sizes.length,sc,q.layer,0,0,W2.heap.size,[]⟩]) tv' mv' (.slice (some ⟨g9,0,none⟩) (rs.length+1) cap9)):=AD (by
    have hm1:=Hj.out.1
    refine ⟨by simpa using hcS,hE2.keeps kAll (fun i hi hm=>by
     have:=hm1.ownB i hi;rcases AG.1 hm with rfl | hm
     ·omega
     ·have:=hlow i hm;omega),hm1.ownB,?_,?_,by simp [hrl],fun r hr=>?_,?_,fun i r q' hi hq'=>?_⟩
    ·have e:((EF m vals).take (j+1)).map (·.name)=((EF m vals).take j).map (·.name)++[q.name]:=by rw [An,hq];simp
     rw [e];refine (Hj.out.2.apart (Y:=W1.heap.size :: (rs++[(⟨sa,q.sizes.length,sc,q.layer,0,0,W2.heap.size,[]⟩:BF)]).map (·.rm)) (fun i hi=>?_)).kept kAll (fun i hi hm=>?_) (fun i hi hm=>?_)
     ·simp only [Am,AG,AC,Au,Dc,A7,or_false] at hi ⊢;rcases hi with hi | hi | hi
      ·exact .inl (.inl hi)
      ·exact .inl (.inr hi)
      ·exact .inr (by omega)
     ·have hi':tv'.ownBlock=some i:=(by simpa [Aa] using hi);rcases AG.1 hm with rfl | hm
      ·exact Hj.out.2.rowA _ hi' (by simp)
      ·exact Kd Hj.out.2.row hrow2 (by decide) i hi' (by simpa [Aa] using hm)
     ·rcases Hj.out.2.map with ⟨h3,_⟩ | ⟨r3,h3,h4,_,h5,_⟩
      ·rw [h3] at hi;simp [mapL] at hi
      ·rw [h3] at hi;simp only [mapL,AF] at hi;subst hi;rcases AG.1 hm with rfl | hm
       ·exact h5 (by simp)
       ·obtain ⟨cs,t,hh⟩:=hrr _ hm;obtain ⟨_,_,h6,_⟩:=h4;rw [hh] at h6;cases h6
    ·rw [Vx,AJ,Ah]
     exact AH hown9 kS (fun i hi hm=>by
      simp only [AF] at hm;have:=(As hown9 i hi).1
      omega)
    ·rcases AC.1 hr with hr | hr
     ·refine ⟨(hm2 r hr).kept kAll (fun hm=>?_),(hm1.maps r hr).2⟩;rcases AG.1 hm with e | hm
      ·have:=(hm1.maps r hr).2;omega
      ·obtain ⟨cs,t,hh⟩:=hrr _ hm;obtain ⟨_,_,h6,_⟩:=hm2 r hr;rw [hh] at h6;cases h6
     ·simp only [AF] at hr;subst hr;refine ⟨(((hMp.kept kA (by simp)).kept (AA.drew [] _) (by simp)).kept k9 (fun hm=>by have:=hlow _ hm;omega)).kept kS (by simp;omega),by show _≤W2.heap.size;omega⟩
    ·rw [Am,BJ];refine ⟨hm1.nodup,by simp,fun a ha b hb=>?_⟩;simp only [Au,Dc,AF] at hb;obtain ⟨r,hr,rfl⟩:=AM.1 ha;have:=(hm2 r hr).lt;omega
    ·rw [List.getElem?_append] at hi;split at hi
     ·exact hm1.like i r q' hi hq'
     ·rename_i hlt;have hi0:i=j:=by
       rcases BP (i - rs.length) 1 with h7 | h7
       ·omega
       ·rw [Af (by simpa using h7)] at hi;cases hi
      subst hi0;rw [hq] at hq';cases hq';rw [show i - rs.length=0 by omega] at hi;simp at hi;subst hi
      exact ⟨rfl,rfl,rfl,rfl,rfl,hov⟩)
   have HkF:Hid (AA [W1.heap.size] Wb (w9.setCell ⟨W1.heap.size,2,none⟩ (.slice (some ⟨g9,0,none⟩) (rs.length+1) cap9))):=AD (kb2.trans_new kAll (fun i hi=>by
    rcases AG.1 hi with rfl | hi
    ·exact .inl (by simp)
    ·exact .inr (by have:=hlow i hi;have:=Hzb.out;omega)))
   have Hrl:=AD hrl;clear hown9 hgrow hat k9 hcM hc9 hR9 kS hcS kMD kAll hrr hlow hrl;refine HK.out _ _ (fun _=>HF4.out) ?_;clear HK;try simp only [Act.put,AI,AS,AR]
   refine Bs 13 (by kernel_rfl) rfl ?_;intro K hK;have HK:=AD hK;clear hK;rw [if_pos (by rfl)];go_simp
   refine HK.out _ _ (fun _=>HF4.out) ?_;clear HK;try simp only [Act.put,AI,AS,AR]
   refine Bs 14 (by kernel_rfl) rfl ?_;intro K hK;have HK:=AD hK;clear hK;rw [if_pos (by rfl)];go_simp
   refine HK.out _ _ (fun _=>HF4.out) ?_;clear HK;try simp only [Act.put,AI,AS,AR]
   refine Bs 15 (by kernel_rfl) rfl ?_;intro K hK;have HK:=AD hK;clear hK;rw [if_pos (by rfl)];go_simp
   refine HK.out _ _ (fun h=>absurd rfl h) ?_;clear HK;refine HQ (by kernel_rfl) ?_;go_wp2_with fail
   go_roundw
   ·exact ⟨j+1,_,tv',mv',_,by simp,by omega,HMk.out,HkF.out⟩
   ·simp only [intOf];omega
  ·have hjI:¬ (j:Int)<m.rels.length:=(by omega);have e:j=m.rels.length:=(by omega);subst e;obtain ⟨gr,cr,hrv,hbse,hall,hset⟩:=hM.bse hf h0;subst hrv;have hbb:=hM.cells.lt;have Hlike:=AD (Ak hM.len hM.like);have hlen0:rs.length=m.rels.length:=hM.len;have kwr:AA [] w wr:=kw.trans_new hk (fun i hi=>.inr (by simp only [AF] at hi;have:=Hz1.out;omega));have r1:=(h.cells.keeps kwr).cell 1;simp at r1;have Hlen0:=AD hlen0
   have HM2:Hid (kU w wr base W1.heap.size B (ST.mk0 12) gr cr rs rs tv mv none [] 0 [] (m.rels.map Prod.fst)):=AD ⟨hbse,fun i r hi=>by
    have q:=hall i r hi
    exact ⟨q.fa.iff fun l _=>by simp [Ew],q.tu,q.ranks⟩,World.ownsRow_nil ..,fun j hj=>by simp [Value.ownBlock] at hj,hset,Jh.refl rs,fun k hk=>by simp at hk,rfl⟩
   have hbb1:w.heap.size≤W1.heap.size:=Hz1.out;have Hft:Hid (∀ j∈ftp B gr rs,w.heap.size≤j):=AD fun j hj=>by
    have hg:=(As hM.row gr rfl).1;simp only [ftp,AG,AC,AM] at hj;rcases hj with rfl | ⟨r,hr,rfl⟩ | hj
    ·omega
    ·have:=(hM.maps r hr).2;omega
    ·exact hown j hj
   have HAt:Hid (∀ a,JY m a→∀ rs1,Jh rs rs1→Zo rs1 a):=AD fun a ha rs1 hlk=>by
    have hra:=ha.rel;obtain ⟨r0,hr0⟩:∃ r0,rs[a.rel]?=some r0:=⟨_,AB (by omega)⟩;obtain ⟨q,hq⟩:∃ q,(EF m vals)[a.rel]?=some q:=⟨_,AB (by rw [Ii];omega)⟩;obtain ⟨r,h1,h2⟩:=hlk.2 _ r0 hr0;obtain ⟨a1,_⟩:=Hlike.out.2 _ r0 q hr0 hq;obtain ⟨nm,cols,h3,rfl⟩:=Gn.1 hq;have e:m.cols a.rel=cols:=(by simp [Mean.cols,h3]);have en:r.n=cols.length:=by rw [h2];simpa using a1
    exact ⟨⟨r,h1,by rw [ha.len,e,en],by rw [en];exact hf.cols _ (AE h3)⟩,ha.tms⟩
   clear hlen0 hM hbse hall hset p0 p1 hjI;go_wp2_with fail
   clear r1;rename World=>w1;go_loopw [48] (fun y wr=>∃ (j:Nat) (S1:ST) (rs1:List BF) (ka:Option Addr) (ks:List CluX) (kc:Nat),y=.int .i64 j∧j≤m.clauses.length∧kU w wr base W1.heap.size B S1 gr cr rs rs1 tv mv ka ks kc (m.clauses.take j) (m.rels.map Prod.fst)∧AA [] w wr∧S1.next≤2+33710000 * j) (fun y _=>((m.clauses.length:Int) - intOf y).toNat)
   case atStart=>exact ⟨0,_,rs,none,[],0,rfl,by omega,HM2.out,kwr,by show (2:Int)≤_;omega⟩
   case round=>
    obtain ⟨j,S1,rs1,ka,ks,kc,rfl,hj,hM,hkw,hn⟩:=hrel;have Hn:=AD hn;clear hn;by_cases hjl:j<m.clauses.length
    ·have hjI:(j:Int)<m.clauses.length:=(by omega);obtain ⟨gC,hgC⟩:=Fr h.cls (by omega);subst hgC;obtain ⟨c,hc⟩:∃ c,m.clauses[j]?=some c:=⟨_,AB hjl⟩;have hcm:=AE hc;obtain ⟨k,hkc,c0,c1,c2,hclu⟩:=h.clause hf hc;have hrk:=AH h.cls hkw;have q0:=BL hrk c0;have q1:=BL hrk c1;have q2:=BL hrk c2;have htk:m.clauses.take (j+1)=m.clauses.take j++[c]:=by rw [An,hc];rfl
     have Htk:=AD htk;obtain ⟨c',gt,tc,la,lc,lt⟩:=k;dsimp only at hkc q0 q1 q2;subst hkc;have kC:=AA.alloc [] wr (.cells #[.int .i64 (c'.head.rel:Int),.slice (some ⟨gt,0,none⟩) c'.head.terms.length tc,.slice la c'.lits.length lc] 154);have hC:=AK.new wr #[.int .i64 (c'.head.rel:Int),.slice (some ⟨gt,0,none⟩) c'.head.terms.length tc,.slice la c'.lits.length lc] 154;have zC:=AX wr (.cells #[.int .i64 (c'.head.rel:Int),.slice (some ⟨gt,0,none⟩) c'.head.terms.length tc,.slice la c'.lits.length lc] 154);generalize hWC:wr.alloc (.cells #[.int .i64 (c'.head.rel:Int),.slice (some ⟨gt,0,none⟩) c'.head.terms.length tc,.slice la c'.lits.length lc] 154)=WC at *;rename Ac=>c;have d0:=hC.cell 0;have d1:=hC.cell 1;have d2:=hC.cell 2;simp at d0 d1 d2;have hbC:=hM.bse.keeps0 kC;have hbl:=hM.bse.cells.lt;have hks52:ks.length≤52:=by
      have e:=congrArg List.length hM.ksc;rw [AY] at e;have:=Bl D7 (m.clauses.take j);rw [BH] at this;omega
     clear htk c0 c1 c2;by_cases hl0:0<c.lits.length
     ·have hlI:(0:Int)<(c.lits.length:Int):=(by omega);go_wp2_with fail
      go_upto_region 12 with fail
      have b3:=hbC.cells.cell 3;simp at b3;have HF1:Hid (WC.drew.cell? ⟨W1.heap.size,3,none⟩=some (.slice ka ks.length kc)∧WC.drew.cell? ⟨wr.heap.size,0,none⟩=some (.int .i64 (c.head.rel:Int))∧WC.drew.cell? ⟨wr.heap.size,1,none⟩=some (.slice (some ⟨gt,0,none⟩) c.head.terms.length tc)∧WC.drew.cell? ⟨wr.heap.size,2,none⟩=some (.slice la c.lits.length lc)):=AD ⟨b3,d0,d1,d2⟩;have kA:=AA.alloc [] WC (.cells #[.int .i64 (c.head.rel:Int),.slice (some ⟨gt,0,none⟩) c.head.terms.length tc,.slice la c.lits.length lc] 154);have zA:=AX WC (.cells #[.int .i64 (c.head.rel:Int),.slice (some ⟨gt,0,none⟩) c.head.terms.length tc,.slice la c.lits.length lc] 154);have HF2:Hid ((WC.alloc (.cells #[.int .i64 (c.head.rel:Int),.slice (some ⟨gt,0,none⟩) c.head.terms.length tc,.slice la c.lits.length lc] 154)).drew.cell? ⟨W1.heap.size,3,none⟩=some (.slice ka ks.length kc)∧(WC.alloc (.cells #[.int .i64 (c.head.rel:Int),.slice (some ⟨gt,0,none⟩) c.head.terms.length tc,.slice la c.lits.length lc] 154)).drew.cell? ⟨wr.heap.size,0,none⟩=some (.int .i64 (c.head.rel:Int))∧(WC.alloc (.cells #[.int .i64 (c.head.rel:Int),.slice (some ⟨gt,0,none⟩) c.head.terms.length tc,.slice la c.lits.length lc] 154)).drew.cell? ⟨wr.heap.size,1,none⟩=some (.slice (some ⟨gt,0,none⟩) c.head.terms.length tc)∧(WC.alloc (.cells #[.int .i64 (c.head.rel:Int),.slice (some ⟨gt,0,none⟩) c.head.terms.length tc,.slice la c.lits.length lc] 154)).drew.cell? ⟨wr.heap.size,2,none⟩=some (.slice la c.lits.length lc)):=AD ⟨by have:=(hbC.cells.keeps kA).cell 3;simpa using this,by have:=(hC.keeps kA).cell 0;simpa using this,by have:=(hC.keeps kA).cell 1;simpa using this,by have:=(hC.keeps kA).cell 2;simpa using this⟩;have hrowA:=AH hM.row (kC.trans (kA.trans (AA.drew [] _)));have three:=RI (W:=WC) (a:=.int .i64 (c.head.rel:Int)) (b:=.slice (some ⟨gt,0,none⟩) c.head.terms.length tc) (c:=.slice la c.lits.length lc) (t:=154);rw [zC] at three;have HM:=AD hM;have HhC:=AD hC;have HbC:=AD hbC;clear b3 d0 d1 d2 q0 q1 q2 hM hC hbC;refine HO 10 (fun w'=>w'.cell? ⟨W1.heap.size,3,none⟩=some (.slice ka ks.length kc)∧w'.cell? ⟨wr.heap.size,0,none⟩=some (.int .i64 (c.head.rel:Int))∧w'.cell? ⟨wr.heap.size,1,none⟩=some (.slice (some ⟨gt,0,none⟩) c.head.terms.length tc)∧w'.cell? ⟨wr.heap.size,2,none⟩=some (.slice la c.lits.length lc)) (by kernel_rfl) ?_;refine A3 0 (v:=?_) rfl (by kernel_rfl) (by kernel_rfl) (by kernel_rfl) (by kernel_rfl) (fun _ _ _ h=>h) (BX ⟨by rfl,?_⟩) HF1.out ?_;rotate_left
      ·(intro w' hSw;obtain ⟨s0,s1,s2,s3⟩:=hSw;go_simp;try with_reducible rfl)
      simp only [Act.put,AI,AS,AR];refine A3 1 (v:=?_) rfl (by kernel_rfl) (by kernel_rfl) (by kernel_rfl) (by kernel_rfl) (fun _ _ _ h=>h) (BX ⟨by rfl,?_⟩) HF1.out ?_;rotate_left
      ·(intro w' hSw;obtain ⟨s0,s1,s2,s3⟩:=hSw;go_simp;try with_reducible rfl)
      simp only [Act.put,AI,AS,AR];refine A3 2 (v:=?_) rfl (by kernel_rfl) (by kernel_rfl) (by kernel_rfl) (by kernel_rfl) (fun _ _ _ h=>h) (BX ⟨by rfl,?_⟩) HF1.out ?_;rotate_left
      ·(intro w' hSw;obtain ⟨s0,s1,s2,s3⟩:=hSw;go_simp;try with_reducible rfl)
      simp only [Act.put,AI,AS,AR];refine A3 3 (v:=?_) rfl (by kernel_rfl) (by kernel_rfl) (by kernel_rfl) (by kernel_rfl) (fun _ _ _ h=>h) (BX ⟨by rfl,?_⟩) HF1.out ?_;rotate_left
      ·(intro w' hSw;obtain ⟨s0,s1,s2,s3⟩:=hSw;go_simp;try with_reducible rfl)
      simp only [Act.put,AI,AS,AR];refine A3 4 (v:=?_) rfl (by kernel_rfl) (by kernel_rfl) (by kernel_rfl) (by kernel_rfl) (fun _ _ _ h=>h) (BX ⟨by rfl,?_⟩) HF1.out ?_;rotate_left
      ·(intro w' hSw;obtain ⟨s0,s1,s2,s3⟩:=hSw;go_simp;try with_reducible rfl)
      simp only [Act.put,AI,AS,AR];refine A3 5 (v:=?_) rfl (by kernel_rfl) (by kernel_rfl) (by kernel_rfl) (by kernel_rfl) (fun _ _ _ h=>h) (BX ⟨by rfl,?_⟩) HF1.out ?_;rotate_left
      ·(intro w' hSw;obtain ⟨s0,s1,s2,s3⟩:=hSw;go_simp;try with_reducible rfl)
      simp only [Act.put,AI,AS,AR];refine Bs 6 (by kernel_rfl) rfl ?_;intro K hK;have HK:=AD hK;clear hK;rw [if_pos (by rfl)];go_simp
      refine HK.out _ _ (fun _=>HF2.out) ?_;clear HK;try simp only [Act.put,AI,AS,AR]
      refine Bs 7 (by kernel_rfl) rfl ?_;intro K hK;have HK:=AD hK;clear hK;refine step_append_lies _ (by rfl) _ _ _ (by rfl) (W1.heap.size+1) 154 i4 _ 3 56 underlying124 hi4 hx0 hx1 hx2 rfl (by omega) (.slice ka ks.length kc) ks.length (P5 ks) (by rfl) hrowA ⟨wr.heap.size+1,0,none⟩ 1 1 [.int .i64 (c.head.rel:Int),.slice (some ⟨gt,0,none⟩) c.head.terms.length tc,.slice la c.lits.length lc] (by rfl) (by rfl) three (by simp [Value.oneCell']) (by omega) (by unfold maxLen;omega) (by omega) (by show _≤(WC.alloc (.cells #[.int .i64 (c.head.rel:Int),.slice (some ⟨gt,0,none⟩) c.head.terms.length tc,.slice la c.lits.length lc] 154)).heap.size;rw [zA,zC];omega) (wr.heap.size+1+1) (by rw [←zC];exact zA) ?_;intro g9 cap9 w9 hown9 hgrow hat hlt9;have k9:=grownBy_keeps' hgrow (Aa (.slice ka ks.length kc)) (fun r e=>.inl (by simp [Aa,e]));have hlow:∀ i∈Aa (.slice ka ks.length kc),i<wr.heap.size∧i∉W1.heap.size :: ftp B gr rs:=fun i hi=>⟨(Bd HM.out.row i (by simpa [Aa] using hi)).2,HM.out.rowA i (by simpa [Aa] using hi)⟩;have hc9:=((HbC.out.cells.keeps kA).keeps (AA.drew [] _)).keeps k9 (fun hm=>(hlow _ hm).2 (by simp));have hC9:=((HhC.out.keeps kA).keeps (AA.drew [] _)).keeps k9 (fun hm=>by have:=(hlow _ hm).1;omega);have e0:=hc9.cell 3;have f0:=hc9.frozen 3;simp at e0;have HF4:Hid (w9.cell? ⟨W1.heap.size,3,none⟩=some (.slice ka ks.length kc)∧w9.cell? ⟨wr.heap.size,0,none⟩=some (.int .i64 (c.head.rel:Int))∧w9.cell? ⟨wr.heap.size,1,none⟩=some (.slice (some ⟨gt,0,none⟩) c.head.terms.length tc)∧w9.cell? ⟨wr.heap.size,2,none⟩=some (.slice la c.lits.length lc)):=AD ⟨e0,by have:=hC9.cell 0;simpa using this,by have:=hC9.cell 1;simpa using this,by have:=hC9.cell 2;simpa using this⟩;have kp:AA (Aa (.slice ka ks.length kc)) wr w9:=((kC.trans (kA.trans (AA.drew [] _))).mono (by simp)).trans k9;have HM2:=AD (HM.out.rule (k:=⟨c,gt,tc,la,lc,lt⟩) hclu hl0 hown9 kp (hat.imp id (fun e=>by omega)));have HkF:Hid (AA [] w (w9.setCell ⟨W1.heap.size,3,none⟩ (.slice (some ⟨g9,0,none⟩) (ks.length+1) cap9))):=AD ((hkw.trans_new kp (fun i hi=>.inr (by have:=(As HM.out.row i (by simpa [Aa] using hi)).1;omega))).trans_new (AA.setCell _ _ _) (fun i hi=>.inr (by simp only [AF] at hi;omega)));clear hown9 hgrow hat k9 hlow hc9 hC9 kp hrowA three;refine HK.out _ _ (fun _=>HF4.out) ?_;clear HK;try simp only [Act.put,AI,AS,AR]
      refine Bs 8 (by kernel_rfl) rfl ?_;intro K hK;have HK:=AD hK;clear hK;rw [if_pos (by rfl)];go_simp
      refine HK.out _ _ (fun _=>HF4.out) ?_;clear HK;try simp only [Act.put,AI,AS,AR]
      refine Bs 9 (by kernel_rfl) rfl ?_;intro K hK;have HK:=AD hK;clear hK;rw [if_pos (by rfl)];go_simp
      refine HK.out _ _ (fun _=>HF4.out) ?_;clear HK;try simp only [Act.put,AI,AS,AR]
      refine Bs 10 (by kernel_rfl) rfl ?_;intro K hK;have HK:=AD hK;clear hK;rw [if_pos (by rfl)];go_simp
      refine HK.out _ _ (fun h=>absurd rfl h) ?_;clear HK;refine HQ (by kernel_rfl) ?_;go_wp2_with fail
      go_roundw
      ·exact ⟨j+1,S1,rs1,some ⟨g9,0,none⟩,ks++[⟨c,gt,tc,la,lc,lt⟩],cap9,by simp,by omega,by rw [Htk.out];exact HM2.out,HkF.out,by have:=Hn.out;push_cast;omega⟩
      ·simp only [intOf];omega
     ·have hl9:c.lits=[]:=List.eq_nil_of_length_eq_zero (by omega);have e9:c.lits.length=0:=(by omega);have Hl9:=AD hl9;rw [e9] at hWC d2 hC q2;clear e9;have hfi:=hf.heads c hcm;obtain ⟨r,hr,hrn,_⟩:=(HAt.out _ hfi _ hM.like).rel;have hρ:=(AL.1 hr).1;have hρI:(c.head.rel:Int)<rs1.length:=(by omega);have hrn3:=hM.bse.cols r (AE hr);obtain ⟨cs,hcs,hcss⟩:=hbC.rel;have hrc:=hcss _ r hr;have b2:=hbC.cells.cell 2;have b4:=hbC.cells.cell 4;have g2:WC.cell? ⟨gr,c.head.rel * 5+2,none⟩=some (.int .i64 r.fa):=by rw [hcs.cell];exact hrc.c2
      simp at b2 b4;have hh0:ID w gt c.head.terms:=(hclu [] (by simp)).head;have hgt:gt∉B.own:=fun hm=>by have:=hown gt hm;have:gt<w.heap.size:=hh0.1;omega
      have Hrn:=AD hrn;have HM:=AD hM;clear hrn hM hl0 hl9;go_wp2_with fail
      go_quiet (fail)
      have kD:=AA.drewN [] WC nq;have zD:(WC.drewN nq).heap.size=wr.heap.size+1:=zC;have hbD:=hbC.keeps0 kD;have hCD:=hC.keeps kD;have kWD:=kC.trans kD;have g2D:(WC.drewN nq).cell? ⟨gr,c.head.rel * 5+2,none⟩=some (.int .i64 r.fa):=g2;clear b2 b4 g2 d0 d1 d2 hcs hcss hrc q0 q1 q2;generalize WC.drewN nq=WD at *;go_upto_region 14 with fail
      have b4:=hbD.cells.cell 4;have d0:=hCD.cell 0;have d1:=hCD.cell 1;simp at b4 d0 d1;have HF1:Hid (WD.drew.cell? ⟨W1.heap.size,4,none⟩=some (.pointer (some ⟨B.b,0,none⟩))∧WD.drew.cell? ⟨gr,c.head.rel * 5+2,none⟩=some (.int .i64 r.fa)∧WD.drew.cell? ⟨wr.heap.size,0,none⟩=some (.int .i64 (c.head.rel:Int))∧WD.drew.cell? ⟨wr.heap.size,1,none⟩=some (.slice (some ⟨gt,0,none⟩) c.head.terms.length tc)):=AD ⟨b4,g2D,d0,d1⟩;have kDD:=AA.drew [] WD;have hhd:=AD (Xq (w:=WD.drew) (c:=tc) (ρ:=(c.head.rel:Int)) (f:=1) (R:=fun _=>True) (hbD.eng.keeps0 kDD) (hbD.bs.keeps kDD) hgt ((hh0.keeps (hkw.trans kWD)).keeps kDD) hfi.tms (by have:=Hrn.out;omega) ⟨IR S1,fun σ=>by simp [Dq]⟩ (by have:=Hn.out;unfold GN;omega));have hbDD:=hbD.keeps0 kDD;have hCDD:=hCD.keeps kDD;have zown:wr.heap.size∉B.own:=fun hm=>by have:=hBlt _ hm;omega
      obtain ⟨cs,hcs,hcss⟩:=hbDD.rel;have hcf:=(hcss _ r hr).c2;clear b4 d0 d1 g2D;refine HO 16 (fun w'=>w'.cell? ⟨W1.heap.size,4,none⟩=some (.pointer (some ⟨B.b,0,none⟩))∧w'.cell? ⟨gr,c.head.rel * 5+2,none⟩=some (.int .i64 r.fa)∧w'.cell? ⟨wr.heap.size,0,none⟩=some (.int .i64 (c.head.rel:Int))∧w'.cell? ⟨wr.heap.size,1,none⟩=some (.slice (some ⟨gt,0,none⟩) c.head.terms.length tc)) (by kernel_rfl) ?_;refine A3 0 (v:=?_) rfl (by kernel_rfl) (by kernel_rfl) (by kernel_rfl) (by kernel_rfl) (fun _ _ _ h=>h) (BX ⟨by rfl,?_⟩) HF1.out ?_;rotate_left
      ·(intro w' hSw;obtain ⟨s0,s1,s2,s3⟩:=hSw;go_simp;try with_reducible rfl)
      simp only [Act.put,AI,AS,AR];refine A3 1 (v:=?_) rfl (by kernel_rfl) (by kernel_rfl) (by kernel_rfl) (by kernel_rfl) (fun _ _ _ h=>h) (BX ⟨by rfl,?_⟩) HF1.out ?_;rotate_left
      ·(intro w' hSw;obtain ⟨s0,s1,s2,s3⟩:=hSw;go_simp;try with_reducible rfl)
      simp only [Act.put,AI,AS,AR];refine A3 2 (v:=?_) rfl (by kernel_rfl) (by kernel_rfl) (by kernel_rfl) (by kernel_rfl) (fun _ _ _ h=>h) (BX ⟨by rfl,?_⟩) HF1.out ?_;rotate_left
      ·(intro w' hSw;obtain ⟨s0,s1,s2,s3⟩:=hSw;go_simp;try with_reducible rfl)
      simp only [Act.put,AI,AS,AR];refine A3 3 (v:=?_) rfl (by kernel_rfl) (by kernel_rfl) (by kernel_rfl) (by kernel_rfl) (fun _ _ _ h=>h) (BX ⟨by rfl,?_⟩) HF1.out ?_;rotate_left
      ·(intro w' hSw;obtain ⟨s0,s1,s2,s3⟩:=hSw;go_simp;try with_reducible rfl)
      simp only [Act.put,AI,AS,AR];refine A3 4 (v:=?_) rfl (by kernel_rfl) (by kernel_rfl) (by kernel_rfl) (by kernel_rfl) (fun _ _ _ h=>h) (BX ⟨by rfl,?_⟩) HF1.out ?_;rotate_left
      ·(intro w' hSw;obtain ⟨s0,s1,s2,s3⟩:=hSw;go_simp;try with_reducible rfl)
      simp only [Act.put,AI,AS,AR];refine A3 5 (v:=?_) rfl (by kernel_rfl) (by kernel_rfl) (by kernel_rfl) (by kernel_rfl) (fun _ _ _ h=>h) (BX ⟨by rfl,?_⟩) HF1.out ?_;rotate_left
      ·(intro w' hSw;obtain ⟨s0,s1,s2,s3⟩:=hSw;go_simp;try with_reducible rfl)
      simp only [Act.put,AI,AS,AR];refine A3 6 (v:=?_) rfl (by kernel_rfl) (by kernel_rfl) (by kernel_rfl) (by kernel_rfl) (fun _ _ _ h=>h) (BX ⟨by rfl,?_⟩) HF1.out ?_;rotate_left
      ·(intro w' hSw;obtain ⟨s0,s1,s2,s3⟩:=hSw;go_simp;try with_reducible rfl)
      simp only [Act.put,AI,AS,AR];refine A3 7 (v:=?_) rfl (by kernel_rfl) (by kernel_rfl) (by kernel_rfl) (by kernel_rfl) (fun _ _ _ h=>h) (BX ⟨by rfl,?_⟩) HF1.out ?_;rotate_left
      ·(intro w' hSw;obtain ⟨s0,s1,s2,s3⟩:=hSw;go_simp;try with_reducible rfl)
      simp only [Act.put,AI,AS,AR];refine A3 8 (v:=?_) rfl (by kernel_rfl) (by kernel_rfl) (by kernel_rfl) (by kernel_rfl) (fun _ _ _ h=>h) (BX ⟨by rfl,?_⟩) HF1.out ?_;rotate_left
      ·(intro w' hSw;obtain ⟨s0,s1,s2,s3⟩:=hSw;go_simp;try with_reducible rfl)
      simp only [Act.put,AI,AS,AR];refine A3 9 (v:=?_) rfl (by kernel_rfl) (by kernel_rfl) (by kernel_rfl) (by kernel_rfl) (fun _ _ _ h=>h) (BX ⟨by rfl,?_⟩) HF1.out ?_;rotate_left
      ·(intro w' hSw;obtain ⟨s0,s1,s2,s3⟩:=hSw;go_simp;try with_reducible rfl)
      simp only [Act.put,AI,AS,AR];refine A3 10 (v:=?_) rfl (by kernel_rfl) (by kernel_rfl) (by kernel_rfl) (by kernel_rfl) (fun _ _ _ h=>h) (BX ⟨by rfl,?_⟩) HF1.out ?_;rotate_left
      ·(intro w' hSw;obtain ⟨s0,s1,s2,s3⟩:=hSw;go_simp;try with_reducible rfl)
      simp only [Act.put,AI,AS,AR];refine A3 11 (v:=?_) rfl (by kernel_rfl) (by kernel_rfl) (by kernel_rfl) (by kernel_rfl) (fun _ _ _ h=>h) (BX ⟨by rfl,?_⟩) HF1.out ?_;rotate_left
      ·(intro w' hSw;obtain ⟨s0,s1,s2,s3⟩:=hSw;go_simp;try with_reducible rfl)
      simp only [Act.put,AI,AS,AR];refine Bs 12 (by kernel_rfl) rfl ?_;intro K hK;have HK:=AD hK;clear hK;refine A2 rfl 74 _ _ rfl _ func74 (by kernel_rfl) (by kernel_rfl) [.pointer (some ⟨W1.heap.size,0,none⟩),.int .i64 1,.agg #[.int .i64 (c.head.rel:Int),.slice (some ⟨gt,0,none⟩) c.head.terms.length tc]] rfl ?_;refine hhd.out.mono ?_;rintro e W5 ⟨y5,S5,rfl,hE5,k5,x5,n5,hr5⟩;have F5:W5.cell? ⟨W1.heap.size,4,none⟩=some (.pointer (some ⟨B.b,0,none⟩))∧W5.cell? ⟨gr,c.head.rel * 5+2,none⟩=some (.int .i64 r.fa)∧W5.cell? ⟨wr.heap.size,0,none⟩=some (.int .i64 (c.head.rel:Int))∧W5.cell? ⟨wr.heap.size,1,none⟩=some (.slice (some ⟨gt,0,none⟩) c.head.terms.length tc):=⟨by have:=(hbDD.cells.keeps k5 hbDD.bbB).cell 4;simpa using this,by rw [(hcs.keeps k5 hbDD.grB).cell];exact hcf,by have:=(hCDD.keeps k5 zown).cell 0;simpa using this,by have:=(hCDD.keeps k5 zown).cell 1;simpa using this⟩;have hor:=AD (iD hE5 (f:=r.fa) (g:=y5) (F:=fun σ=>Ew (m.clauses.take j) c.head.rel (ED σ 0 r.n)) (((HM.out.all _ r hr).fa.ext x5 HM.out.bse.eng.wf hE5.wf)) hr5 (by have:=Hn.out;unfold GN;omega));refine HK.out _ _ (fun _=>F5) ?_;clear HK hhd;try simp only [Act.put,AI,AS,AR]
      refine Bs 13 (by kernel_rfl) rfl ?_;intro K hK;have HK:=AD hK;clear hK;refine A2 rfl 73 _ _ rfl _ func73 (by kernel_rfl) (by kernel_rfl) [.pointer (some ⟨B.b,0,none⟩),.int .i64 r.fa,.int .i64 y5] rfl ?_;refine hor.out.mono ?_;rintro e W6 ⟨y6,S6,rfl,hE6,k6,x6,n6,hr6⟩;have k56:=k5.trans k6;have HF6:Hid (W6.cell? ⟨W1.heap.size,4,none⟩=some (.pointer (some ⟨B.b,0,none⟩))∧W6.cell? ⟨gr,c.head.rel * 5+2,none⟩=some (.int .i64 r.fa)∧W6.cell? ⟨wr.heap.size,0,none⟩=some (.int .i64 (c.head.rel:Int))∧W6.cell? ⟨wr.heap.size,1,none⟩=some (.slice (some ⟨gt,0,none⟩) c.head.terms.length tc)):=AD ⟨by have:=(hbDD.cells.keeps k56 hbDD.bbB).cell 4;simpa using this,by rw [(hcs.keeps k56 hbDD.grB).cell];exact hcf,by have:=(hCDD.keeps k56 zown).cell 0;simpa using this,by have:=(hCDD.keeps k56 zown).cell 1;simpa using this⟩;have e2:W6.cell? ⟨gr,c.head.rel * 5+2,none⟩=some (.int .i64 r.fa):=HF6.out.2.1;have f2:=(hcs.keeps k56 hbDD.grB).frozen (c.head.rel * 5+2);refine HK.out _ _ (fun _=>HF6.out) ?_;clear HK hor;try simp only [Act.put,AI,AS,AR]
      have kp:AA B.own wr W6:=((kWD.trans kDD).mono (by simp)).trans k56
      have HM2:=AD (HM.out.fact kp hE6 (x5.trans x6) Hl9.out hr (y:=y6) ⟨hr6.1,fun σ=>by
       rw [hr6.2 σ];refine or_congr Iff.rfl ?_;rw [Hrn.out];constructor
       ·rintro ⟨ν,a,_,b⟩;exact ⟨ν,a,b⟩
       ·rintro ⟨ν,a,b⟩;exact ⟨ν,a,trivial,b⟩⟩)
      have HkF:Hid (AA [] w (W6.setCell ⟨gr,c.head.rel * 5+2,none⟩ (.int .i64 y6))):=AD ((hkw.trans_new kp (fun i hi=>.inr (hown i hi))).trans_new (AA.setCell _ _ _) (fun i hi=>.inr (by simp only [AF] at hi;rw [hi];exact Hft.out gr (by simp [ftp]))));have Hn6:Hid (S6.next≤S1.next+33710000):=AD (by omega);clear kp hbDD hCDD hcs hcss hcf hr6 hr5;refine Bs 14 (by kernel_rfl) rfl ?_;intro K hK;have HK:=AD hK;clear hK;rw [if_pos (by rfl)];go_simp
      refine HK.out _ _ (fun _=>HF6.out) ?_;clear HK;try simp only [Act.put,AI,AS,AR]
      refine Bs 15 (by kernel_rfl) rfl ?_;intro K hK;have HK:=AD hK;clear hK;rw [if_pos (by rfl)];go_simp
      refine HK.out _ _ (fun _=>HF6.out) ?_;clear HK;try simp only [Act.put,AI,AS,AR]
      refine Bs 16 (by kernel_rfl) rfl ?_;intro K hK;have HK:=AD hK;clear hK;rw [if_pos (by rfl)];go_simp
      refine HK.out _ _ (fun h=>absurd rfl h) ?_;clear HK;refine HQ (by kernel_rfl) ?_;go_wp2_with fail
      go_roundw
      ·exact ⟨j+1,S6,_,ka,ks,kc,by simp,by omega,by rw [Htk.out];exact HM2.out,HkF.out,by have:=Hn.out;have:=Hn6.out;push_cast;omega⟩
      ·simp only [intOf];omega
    ·have hjI:¬ (j:Int)<m.clauses.length:=(by omega);have e:j=m.clauses.length:=(by omega);subst e;rw [Bp] at hM;have hbase:base≤W1.heap.size:=by have:=h.low;have:=h.cells.lt;omega
     have hkl:=mP hM hkw Hft.out hbase;have hlk:=hM.like;have hks:∀ k∈ks,Ny rs1 k.c∧0<k.c.lits.length:=fun k hk=>by
      have:k.c∈m.clauses.filter D7:=by rw [←hM.ksc];exact AM.2 ⟨k,hk,rfl⟩
      obtain ⟨h1,h2⟩:=Ai.1 this;exact ⟨⟨HAt.out _ (hf.heads _ h1) _ hlk,fun l hl=>HAt.out _ (hf.lits _ h1 l hl) _ hlk,hf.ok.lits _ h1⟩,by simpa [D7] using h2⟩
     have hks52:ks.length≤52:=by
      have e:=congrArg List.length hM.ksc;rw [AY] at e;have:=Bl D7 m.clauses;omega
     have hwk:=AD (VP hM.bse hM.all (hkl.sub (fun j hj=>AC.2 (.inr hj))) hks hks52 (by rw [hlk.1,Hlen0.out];exact h0) 0 (by omega) (by have:=Hn.out;unfold GN;omega));clear hks;go_wp2_with fail
     refine hwk.out.mono ?_;rintro e W9 ⟨rfl,rs9,S9,rk9,hb9,lk9,k9,n9,ha9,hs9⟩;have Hn9:=AD n9;clear n9;go_wp2_with fail
     go_ret
     have ef:=lk9.ftp (B:=B) (gr:=gr);have ef1:=hlk.ftp (B:=B) (gr:=gr);refine ⟨W1.heap.size,B,S9,gr,cr,rs9,tv,mv,ka,ks,kc,rk9,rfl,⟨hb9,ha9,by rw [ef];exact hkl.keeps k9 (fun j hj=>.inl (AC.2 (.inr hj))),hM.ksc,?_,fun j hj=>?_,by rw [lk9.1,hlk.1,Hlen0.out],fun i r nm cols hi hc=>?_⟩,hs9.like lk9 |> fun q=>by rw [lk9.1];exact q,by have:=Hn.out;have:=Hn9.out;omega,hkw.trans_new k9 (fun j hj=>.inr (Hft.out j (by rw [←ef1];exact hj)))⟩
     ·rw [ef,ef1];have hs:=hM.set.keeps k9 (fun j hj=>.inl (AP _ (by rw [←ef1];exact hj)));exact ⟨Fq hs.row (by omega),hs.rowA,hs.map.imp id (fun ⟨r,a,b,c,d⟩=>⟨r,a,b,by omega,d⟩)⟩
     ·rcases AG.1 hj with rfl | hj
      ·exact hbase
      ·have:=Hft.out j (by rw [←ef1,←ef];exact hj);have:=h.low;have:=h.cells.lt;omega
     ·have hil:=(AL.1 hi).1;obtain ⟨r1,hr1⟩:∃ r1,rs1[i]?=some r1:=⟨_,AB (by rw [←lk9.1];exact hil)⟩;obtain ⟨r0,hr0⟩:∃ r0,rs[i]?=some r0:=⟨_,AB (by rw [←hlk.1,←lk9.1];exact hil)⟩;obtain ⟨r',h1,h2⟩:=lk9.2 i r1 hr1;rw [hi] at h1;cases h1;obtain ⟨r'',h3,h4⟩:=hlk.2 i r0 hr0;rw [hr1] at h3;cases h3;obtain ⟨a1,a2,_,_,_,a6⟩:=Hlike.out.2 i r0 _ hr0 (Gn.2 ⟨nm,cols,hc,rfl⟩);have hcp:=hf.cols _ (AE hc);have en:r0.n=(cols.map m.size).length:=a1;rw [en] at a6;obtain ⟨g,cap,e1,e2,e3,_⟩:=Ke (xs:=cols.map m.size) a6 (by simpa using hcp);injection e1 with e1 _ _;have hgl:=e3.lt;have hgno:g∉W1.heap.size :: ftp B gr rs9:=fun hm=>by
       rcases AG.1 hm with e | hm
       ·omega
       ·have:=Hft.out g (by rw [←ef1,←ef];exact hm);omega
      have es1:r1.sa=r0.sa:=(by rw [h4]);have en1:r1.n=r0.n:=(by rw [h4]);have el1:r1.layer=r0.layer:=(by rw [h4]);refine ⟨by rw [h2.n,en1,en];simp,by rw [h2.layer,el1];exact a2,g,by rw [h2.sa,es1];exact e1,hgno,e2,(e3.keepsE hkw).keepsE k9 (fun hm=>hgno (AP _ (by rw [ef];exact hm)))⟩
end
end Go.Proofs.YtgjomknpjigkhaaGreatDoor
