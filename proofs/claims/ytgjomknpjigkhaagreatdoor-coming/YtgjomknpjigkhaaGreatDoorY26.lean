import Derived.Test.YtgjomknpjigkhaaGreatDoorY25
namespace Go.Proofs.YtgjomknpjigkhaaGreatDoor
open Go.Proofs.Tryz
set_option maxRecDepth 100000
set_option maxHeartbeats 4000000
section
open Go.RowKit
theorem RW {w:World} {base p:Nat} {toks:List Tn} {m:Mean} {vals:List Nat} {rv cl tv:Value} {rvs kvs:List Value} (h:Hu w base p toks m vals rv cl tv rvs kvs) (hf:DI m) (h0:0<m.rels.length):Calls prog 37 #[.pointer (some ⟨p,0,none⟩)] w (WkTo base m vals w):=by
 obtain ⟨i5,hi5,hy0,hy1,hy2⟩:=info_parts jD;obtain ⟨i4,hi4,hx0,hx1,hx2⟩:=info_parts X3;have hmk:=AD (fun (W:World)=>ZD (w:=W) 12 (by omega) (by omega));obtain ⟨ar,cr0,hrv⟩:=Aj h.rels;obtain ⟨ac,cc0,hcv⟩:=Aj h.cls;subst hrv hcv;obtain ⟨gR,hgR⟩:=Eu h.rels h0;subst hgR;have h6:=hf.ok.rels;have h52:=hf.ok.clauses;go_in
 go_wp2_with fail
 refine (hmk.out _).mono ?_;rintro e W1 ⟨B,rfl,hst,hown,hco,k1⟩;have hE1:=C3.mk0 hst hco;have kb:=AA.alloc [] W1 (.cells #[.slice none 0 0,.map none,.slice none 0 0,.slice none 0 0,.pointer (some ⟨B.b,0,none⟩)] 142);have hb:=AM.new W1 #[.slice none 0 0,.map none,.slice none 0 0,.slice none 0 0,.pointer (some ⟨B.b,0,none⟩)] 142;have zb:=AY W1 (.cells #[.slice none 0 0,.map none,.slice none 0 0,.slice none 0 0,.pointer (some ⟨B.b,0,none⟩)] 142);have hEb:=hE1.keeps0 kb;have hBlt:∀ i∈B.own,i<W1.heap.size:=hE1.sat.lt;have kw:=k1.trans kb;have hz1:=k1.size;generalize hWb:W1.alloc (.cells #[.slice none 0 0,.map none,.slice none 0 0,.slice none 0 0,.pointer (some ⟨B.b,0,none⟩)] 142)=Wb at *;have p0:=(h.cells.keeps kw).cell 0;have p1:=(h.cells.keeps kw).cell 1;simp at p0 p1;have Hz1:=AD hz1;have Hzb:=AD zb;clear hz1 zb;go_wp2_with fail
 go_loopw [17] (fun y wr=>∃ (j:Nat) (rs:List A9) (tv mv rv:Value),y=.int .i64 j∧j≤m.rels.length∧Mk1 w wr base W1.heap.size B (EF m vals) j rs tv mv rv∧AA [W1.heap.size] Wb wr) (fun y _=>((m.rels.length:Int) - intOf y).toNat)
 case atStart=>exact ⟨0,[],_,_,_,rfl,by omega,⟨hb,hEb,hBlt,⟨World.ownsRow_nil ..,fun j hj=>by simp [Value.ownBlock] at hj,.inl ⟨rfl,rfl⟩⟩,World.ownsRow_nil ..,rfl,fun r hr=>by simp at hr,by simp,fun i r q hi=>by simp at hi⟩,AA.refl _ _⟩
 case round=>
  obtain ⟨j,rs,tv,mv,rv,rfl,hj,hM,hk⟩:=hrel;by_cases hjl:j<m.rels.length
  ·have hjI:(j:Int)<m.rels.length:=(by omega);have hlenM:(EF m vals).length=m.rels.length:=(by simp [EF]);obtain ⟨q,hq⟩:∃ q,(EF m vals)[j]?=some q:=⟨_,AB (by omega)⟩;obtain ⟨v,c0,c1,c2,hov⟩:=h.relsA.at hq;obtain ⟨sa,sc,hv⟩:=Aj hov;subst hv;have kwr:AA [] w wr:=kw.trans_new hk (fun i hi=>.inr (by simp only [AG] at hi;have:=Hz1.out;omega));have hrk:=AI h.rels kwr;have q0:=BI hrk c0;have q1:=BI hrk c1;have q2:=BI hrk c2;have hname:=cJ hf.ok hq;have kR:=AA.alloc [] wr (.cells #[.string q.name,.slice sa q.sizes.length sc,.int .i64 (q.layer:Int)] 144);have hR:=AM.new wr #[.string q.name,.slice sa q.sizes.length sc,.int .i64 (q.layer:Int)] 144;have zR:=AY wr (.cells #[.string q.name,.slice sa q.sizes.length sc,.int .i64 (q.layer:Int)] 144);generalize hWR:wr.alloc (.cells #[.string q.name,.slice sa q.sizes.length sc,.int .i64 (q.layer:Int)] 144)=WR at *;have d0:=hR.cell 0;have d1:=hR.cell 1;have d2:=hR.cell 2;simp at d0 d1 d2;have hbbR:=hM.cells.keeps kR;have kD:=AA.drew [] WR
   have hadd:=AD (LC (w:=WR.drew) (s:=q.name) (hbbR.keeps kD) (o:=0) rfl rfl (X:=W1.heap.size :: rs.map (·.rm)) (by simp) (fun i hi=>by
    rw [show WR.drew.heap.size=WR.heap.size from rfl,zR];rcases AJ.1 hi with rfl | hi
    ·have:=hM.cells.lt;omega
    ·obtain ⟨r,hr,rfl⟩:=AR.1 hi
     have:=(hM.maps r hr).1.lt;omega) (by rw [show WR.drew.heap.size=WR.heap.size from rfl,zR];have:=hM.cells.lt;omega) ((hM.set.keeps kR).keeps kD) (by simp;omega) hname)
   go_wp2_with fail
   refine Ex 5 (by kernel_rfl) (by kernel_rfl) ?_;simp only [Bs,Ca,Bi,BM];repeat (go_big_quiet_step (fail))
   refine wpQuiet_nil ?_;go_wp2_with fail
   refine hadd.out.mono ?_;rintro e W2 ⟨rfl,⟨tv',mv',hc',hs',ho1,ho2⟩,T,kT,hT⟩;have hc2:AM W2 W1.heap.size #[tv',mv',rv,.slice none 0 0,.pointer (some ⟨B.b,0,none⟩)]:=(by simpa using hc');have kRD:=kR.trans kD;have hrowD:=AI hM.row kRD;have hsetD:=(hM.set.keeps kRD);have hgv:∀ i,rv.ownBlock=some i→i∉T:=fun i hi hm=>by
    rcases hT i hm with rfl | h2 | h2
    ·have:=(Am hM.row _ hi).1;omega
    ·exact Ks hM.row hM.set.row (by decide) i hi h2
    ·obtain ⟨_,cs,t,hh⟩:=Am hM.row i hi;rcases hM.set.map with ⟨h3,_⟩ | ⟨r3,h3,h4,_⟩
     ·rw [h3] at h2;cases h2
     ·rw [h3] at h2;cases h2;obtain ⟨_,_,h5,_⟩:=h4;rw [hh] at h5;cases h5
   have hTlt:∀ i∈T,W1.heap.size≤i∧i<wr.heap.size:=fun i hm=>by
    rcases hT i hm with rfl | h2 | h2
    ·exact ⟨AS _,hM.cells.lt⟩
    ·have:=Ba hM.set.row i h2;omega
    ·rcases hM.set.map with ⟨h3,_⟩ | ⟨r3,h3,h4,h5,_⟩
     ·rw [h3] at h2;cases h2
     ·rw [h3] at h2;cases h2;have:=h4.lt;omega
   have hrmT:∀ r∈rs,r.rm∉T:=fun r hr hm=>by
    rcases hT _ hm with h2 | h2 | h2
    ·have:=(hM.maps r hr).2;omega
    ·obtain ⟨_,cs,t,hh⟩:=Am hM.set.row _ h2;obtain ⟨_,_,h5,_⟩:=(hM.maps r hr).1;rw [hh] at h5;cases h5
    ·rcases hM.set.map with ⟨h3,_⟩ | ⟨r3,h3,h4,h5,h6,_⟩
     ·rw [h3] at h2;cases h2
     ·rw [h3] at h2;cases h2;exact h6 (by simp only [AJ,AR];exact .inr ⟨r,hr,rfl⟩)
   have hrow2:=AI hrowD kT hgv;have hE2:=(hM.eng.keeps0 kRD).keeps kT (fun i hi hm=>by have:=hM.ownB i hi;have:=hTlt i hm;omega);have hR2:=(hR.keeps kD).keeps kT (fun hm=>by have:=hTlt _ hm;omega);have hm2:∀ r∈rs,Bo eI eI W2 r.rm []:=fun r hr=>(((hM.maps r hr).1.kept kRD (by simp)).kept kT (hrmT r hr))
   have kb2:AA [W1.heap.size] Wb W2:=(hk.trans (kRD.mono (by simp))).trans_new kT (fun i hi=>by
    by_cases e:i=W1.heap.size
    ·exact .inl (by simp [e])
    ·exact .inr (by have:=hTlt i hi;have:=Hzb.out;omega))
   have z2:wr.heap.size+1≤W2.heap.size:=by have:=kT.size;rw [show WR.drew.heap.size=WR.heap.size from rfl,zR] at this;exact this
   have Hj:=AD (AU hM hs');have Ho1:=AD (AU ho1 ho2);have HTl:=AD hTlt;clear hM hs' ho1 ho2 hc' hT kT hgv hTlt hrmT hrowD hsetD hadd hR d0 d1 d2 q0 q1 q2 hbbR kRD kD;obtain ⟨ry,rc,hry⟩:=Aj hrow2;subst hry;have b2:=hc2.cell 2;have e1:=hR2.cell 1;have e2:=hR2.cell 2;simp at b2 e1 e2;have HF1:Hid (W2.drew.cell? ⟨W1.heap.size,2,none⟩=some (.slice ry rs.length rc)∧W2.drew.cell? ⟨wr.heap.size,1,none⟩=some (.slice sa q.sizes.length sc)∧W2.drew.cell? ⟨wr.heap.size,2,none⟩=some (.int .i64 (q.layer:Int))):=AD ⟨b2,e1,e2⟩;clear b2 e1 e2;go_upto_region 6 with fail
   refine Fi 15 (fun w'=>w'.cell? ⟨W1.heap.size,2,none⟩=some (.slice ry rs.length rc)∧w'.cell? ⟨wr.heap.size,1,none⟩=some (.slice sa q.sizes.length sc)∧w'.cell? ⟨wr.heap.size,2,none⟩=some (.int .i64 (q.layer:Int))) (by kernel_rfl) ?_;refine A7 0 (v:=?_) rfl (by kernel_rfl) (by kernel_rfl) (by kernel_rfl) (by kernel_rfl) (fun _ _ _ h=>h) (Au ⟨by rfl,?_⟩) HF1.out ?_;rotate_left
   ·(intro w' hSw;obtain ⟨s1,s2,s3⟩:=hSw;go_simp;try with_reducible rfl)
   simp only [Act.put,AE,AK,AH];refine A7 1 (v:=?_) rfl (by kernel_rfl) (by kernel_rfl) (by kernel_rfl) (by kernel_rfl) (fun _ _ _ h=>h) (Au ⟨by rfl,?_⟩) HF1.out ?_;rotate_left
   ·(intro w' hSw;obtain ⟨s1,s2,s3⟩:=hSw;go_simp;try with_reducible rfl)
   simp only [Act.put,AE,AK,AH];refine A7 2 (v:=?_) rfl (by kernel_rfl) (by kernel_rfl) (by kernel_rfl) (by kernel_rfl) (fun _ _ _ h=>h) (Au ⟨by rfl,?_⟩) HF1.out ?_;rotate_left
   ·(intro w' hSw;obtain ⟨s1,s2,s3⟩:=hSw;go_simp;try with_reducible rfl)
   simp only [Act.put,AE,AK,AH];refine A7 3 (v:=?_) rfl (by kernel_rfl) (by kernel_rfl) (by kernel_rfl) (by kernel_rfl) (fun _ _ _ h=>h) (Au ⟨by rfl,?_⟩) HF1.out ?_;rotate_left
   ·(intro w' hSw;obtain ⟨s1,s2,s3⟩:=hSw;go_simp;try with_reducible rfl)
   simp only [Act.put,AE,AK,AH];refine A7 4 (v:=?_) rfl (by kernel_rfl) (by kernel_rfl) (by kernel_rfl) (by kernel_rfl) (fun _ _ _ h=>h) (Au ⟨by rfl,?_⟩) HF1.out ?_;rotate_left
   ·(intro w' hSw;obtain ⟨s1,s2,s3⟩:=hSw;go_simp;try with_reducible rfl)
   simp only [Act.put,AE,AK,AH];refine A7 5 (v:=?_) rfl (by kernel_rfl) (by kernel_rfl) (by kernel_rfl) (by kernel_rfl) (fun _ _ _ h=>h) (Au ⟨by rfl,?_⟩) HF1.out ?_;rotate_left
   ·(intro w' hSw;obtain ⟨s1,s2,s3⟩:=hSw;go_simp;try with_reducible rfl)
   simp only [Act.put,AE,AK,AH];refine A7 6 (v:=?_) rfl (by kernel_rfl) (by kernel_rfl) (by kernel_rfl) (by kernel_rfl) (fun _ _ _ h=>h) (Au ⟨by rfl,?_⟩) HF1.out ?_;rotate_left
   ·(intro w' hSw;obtain ⟨s1,s2,s3⟩:=hSw;go_simp;try with_reducible rfl)
   simp only [Act.put,AE,AK,AH];refine A7 7 (v:=?_) rfl (by kernel_rfl) (by kernel_rfl) (by kernel_rfl) (by kernel_rfl) (fun _ _ _ h=>h) (Au ⟨by rfl,?_⟩) HF1.out ?_;rotate_left
   ·(intro w' hSw;obtain ⟨s1,s2,s3⟩:=hSw;go_simp;try with_reducible rfl)
   simp only [Act.put,AE,AK,AH];refine A7 8 (v:=?_) rfl (by kernel_rfl) (by kernel_rfl) (by kernel_rfl) (by kernel_rfl) (fun _ _ _ h=>h) (Au ⟨by rfl,?_⟩) HF1.out ?_;rotate_left
   ·(intro w' hSw;obtain ⟨s1,s2,s3⟩:=hSw;go_simp;try with_reducible rfl)
   simp only [Act.put,AE,AK,AH];have hmm:=@run_makeMap prog;have kM:=AA.alloc [] W2 (.map #[] 0);have hMp:Bo eI eI (W2.alloc (.map #[] 0)) W2.heap.size ([]:List (Int×Int)):=Bo.new W2 0;have zM:(W2.alloc (.map #[] 0)).heap.size=W2.heap.size+1:=size_alloc' W2 (.map #[] 0);have kA:=AA.alloc [] (W2.alloc (.map #[] 0)) (.cells #[.slice sa q.sizes.length sc,.int .i64 (q.layer:Int),.int .i64 0,.int .i64 0,.map (some W2.heap.size)] 148);have zA:((W2.alloc (.map #[] 0)).alloc (.cells #[.slice sa q.sizes.length sc,.int .i64 (q.layer:Int),.int .i64 0,.int .i64 0,.map (some W2.heap.size)] 148)).heap.size=W2.heap.size+1+1:=(by rw [AY,zM]);have HF2:Hid ((W2.alloc (.map #[] 0)).drew.cell? ⟨W1.heap.size,2,none⟩=some (.slice ry rs.length rc)∧(W2.alloc (.map #[] 0)).drew.cell? ⟨wr.heap.size,1,none⟩=some (.slice sa q.sizes.length sc)∧(W2.alloc (.map #[] 0)).drew.cell? ⟨wr.heap.size,2,none⟩=some (.int .i64 (q.layer:Int))):=AD ⟨by have:=(hc2.keeps kM).cell 2;simpa using this,by have:=(hR2.keeps kM).cell 1;simpa using this,by have:=(hR2.keeps kM).cell 2;simpa using this⟩;have kMA:=kM.trans kA;have HF3:Hid (((W2.alloc (.map #[] 0)).alloc (.cells #[.slice sa q.sizes.length sc,.int .i64 (q.layer:Int),.int .i64 0,.int .i64 0,.map (some W2.heap.size)] 148)).drew.cell? ⟨W1.heap.size,2,none⟩=some (.slice ry rs.length rc)∧((W2.alloc (.map #[] 0)).alloc (.cells #[.slice sa q.sizes.length sc,.int .i64 (q.layer:Int),.int .i64 0,.int .i64 0,.map (some W2.heap.size)] 148)).drew.cell? ⟨wr.heap.size,1,none⟩=some (.slice sa q.sizes.length sc)∧((W2.alloc (.map #[] 0)).alloc (.cells #[.slice sa q.sizes.length sc,.int .i64 (q.layer:Int),.int .i64 0,.int .i64 0,.map (some W2.heap.size)] 148)).drew.cell? ⟨wr.heap.size,2,none⟩=some (.int .i64 (q.layer:Int))):=AD ⟨by have:=(hc2.keeps kMA).cell 2;simpa using this,by have:=(hR2.keeps kMA).cell 1;simpa using this,by have:=(hR2.keeps kMA).cell 2;simpa using this⟩;refine BZ 9 (by kernel_rfl) rfl ?_;intro K hK;have HK:=AD hK;clear hK;rw [if_pos (by rfl)];go_simp
   refine HK.out _ _ (fun _=>HF2.out) ?_;clear HK;try simp only [Act.put,AE,AK,AH]
   refine BZ 10 (by kernel_rfl) rfl ?_;intro K hK;have HK:=AD hK;clear hK;rw [if_pos (by rfl)];go_simp
   refine HK.out _ _ (fun _=>HF2.out) ?_;clear HK;try simp only [Act.put,AE,AK,AH]
   refine BZ 11 (by kernel_rfl) rfl ?_;intro K hK;have HK:=AD hK;clear hK;rw [if_pos (by rfl)];go_simp
   refine HK.out _ _ (fun _=>HF3.out) ?_;clear HK;try simp only [Act.put,AE,AK,AH]
   have five:=U7 (W:=W2.alloc (.map #[] 0)) (a:=.slice sa q.sizes.length sc) (b:=.int .i64 (q.layer:Int)) (c:=.int .i64 0) (d:=.int .i64 0) (e:=.map (some W2.heap.size)) (t:=148);rw [zM] at five;have hrl:rs.length=j:=Hj.out.1.len;have hbb:=Hj.out.1.cells.lt;refine BZ 12 (by kernel_rfl) rfl ?_;intro K hK;have HK:=AD hK;clear hK;refine step_append_lies _ (by rfl) _ _ _ (by rfl) (W1.heap.size+1) 148 i5 _ 5 56 underlying140 hi5 hy0 hy1 hy2 rfl (by omega) (.slice ry rs.length rc) rs.length (MI rs) (by rfl) (AI hrow2 (kMA.trans (AA.drew [] _))) ⟨W2.heap.size+1,0,none⟩ 1 1 [.slice sa q.sizes.length sc,.int .i64 (q.layer:Int),.int .i64 0,.int .i64 0,.map (some W2.heap.size)] (by rfl) (by rfl) five (by simp [Value.oneCell']) (by omega) (by unfold maxLen;omega) (by omega) (by show _≤(((W2.alloc (.map #[] 0)).alloc (.cells #[.slice sa q.sizes.length sc,.int .i64 (q.layer:Int),.int .i64 0,.int .i64 0,.map (some W2.heap.size)] 148))).heap.size;rw [zA];omega) (W2.heap.size+1+1) zA ?_;intro g9 cap9 w9 hown9 hgrow hat hlt9;have k9:=grownBy_keeps' hgrow (Aa (.slice ry rs.length rc)) (fun r e=>.inl (by simp [Aa,e]));have hlow:∀ i∈Aa (.slice ry rs.length rc),W1.heap.size+1≤i∧i<wr.heap.size:=fun i hi=>Ba Hj.out.1.row i (by simpa [Aa] using hi);have hcM:=(hc2.keeps kMA).keeps (AA.drew [] _);have hc9:=hcM.keeps k9 (fun hm=>by have:=hlow _ hm;omega);have hR9:=((hR2.keeps kMA).keeps (AA.drew [] _)).keeps k9 (fun hm=>by have:=hlow _ hm;omega);have e0:=hc9.cell 2;have f0:=hc9.frozen 2;simp at e0;have HF4:Hid (w9.cell? ⟨W1.heap.size,2,none⟩=some (.slice ry rs.length rc)∧w9.cell? ⟨wr.heap.size,1,none⟩=some (.slice sa q.sizes.length sc)∧w9.cell? ⟨wr.heap.size,2,none⟩=some (.int .i64 (q.layer:Int))):=AD ⟨e0,by have:=hR9.cell 1;simpa using this,by have:=hR9.cell 2;simpa using this⟩;have kS:=AA.setCell w9 ⟨W1.heap.size,2,none⟩ (.slice (some ⟨g9,0,none⟩) (rs.length+1) cap9);have hcS:=hc9.setCell 2 (.slice (some ⟨g9,0,none⟩) (rs.length+1) cap9);have kMD:=kMA.trans (AA.drew [] _);have kAll:AA (W1.heap.size :: Aa (.slice ry rs.length rc)) W2 (w9.setCell ⟨W1.heap.size,2,none⟩ (.slice (some ⟨g9,0,none⟩) (rs.length+1) cap9)):=((kMD.mono (by simp)).trans (k9.mono (fun i hi=>AO _ hi))).trans (kS.mono (by simp));have hrr:∀ i∈Aa (.slice ry rs.length rc),∃ cs t,W2.heap[i]?=some (.cells cs t (0,0)):=fun i hi=>(Am hrow2 i (by simpa [Aa] using hi)).2
   have HMk:Hid (Mk1 w (w9.setCell ⟨W1.heap.size,2,none⟩ (.slice (some ⟨g9,0,none⟩) (rs.length+1) cap9)) base W1.heap.size B (EF m vals) (j+1) (rs++[⟨sa,q.sizes.length,sc,q.layer,0,0,W2.heap.size,[]⟩]) tv' mv' (.slice (some ⟨g9,0,none⟩) (rs.length+1) cap9)):=AD (by
    have hm1:=Hj.out.1
    refine ⟨by simpa using hcS,hE2.keeps kAll (fun i hi hm=>by
     have:=hm1.ownB i hi;rcases AJ.1 hm with rfl | hm
     ·omega
     ·have:=hlow i hm;omega),hm1.ownB,?_,?_,by simp [hrl],fun r hr=>?_,?_,fun i r q' hi hq'=>?_⟩
    ·have e:((EF m vals).take (j+1)).map (·.name)=((EF m vals).take j).map (·.name)++[q.name]:=by rw [An,hq];simp
     rw [e];refine (Hj.out.2.apart (Y:=W1.heap.size :: (rs++[(⟨sa,q.sizes.length,sc,q.layer,0,0,W2.heap.size,[]⟩:A9)]).map (·.rm)) (fun i hi=>?_)).kept kAll (fun i hi hm=>?_) (fun i hi hm=>?_)
     ·simp only [Ar,AJ,AC,A0,Dg,BA,or_false] at hi ⊢;rcases hi with hi | hi | hi
      ·exact .inl (.inl hi)
      ·exact .inl (.inr hi)
      ·exact .inr (by omega)
     ·have hi':tv'.ownBlock=some i:=(by simpa [Aa] using hi);rcases AJ.1 hm with rfl | hm
      ·exact Hj.out.2.rowA _ hi' (by simp)
      ·exact Ks Hj.out.2.row hrow2 (by decide) i hi' (by simpa [Aa] using hm)
     ·rcases Hj.out.2.map with ⟨h3,_⟩ | ⟨r3,h3,h4,_,h5,_⟩
      ·rw [h3] at hi;simp [mapL] at hi
      ·rw [h3] at hi;simp only [mapL,AG] at hi;subst hi;rcases AJ.1 hm with rfl | hm
       ·exact h5 (by simp)
       ·obtain ⟨cs,t,hh⟩:=hrr _ hm;obtain ⟨_,_,h6,_⟩:=h4;rw [hh] at h6;cases h6
    ·rw [V5,AN,Ak]
     exact AI hown9 kS (fun i hi hm=>by
      simp only [AG] at hm;have:=(Am hown9 i hi).1
      omega)
    ·rcases AC.1 hr with hr | hr
     ·refine ⟨(hm2 r hr).kept kAll (fun hm=>?_),(hm1.maps r hr).2⟩;rcases AJ.1 hm with e | hm
      ·have:=(hm1.maps r hr).2;omega
      ·obtain ⟨cs,t,hh⟩:=hrr _ hm;obtain ⟨_,_,h6,_⟩:=hm2 r hr;rw [hh] at h6;cases h6
     ·simp only [AG] at hr;subst hr;refine ⟨(((hMp.kept kA (by simp)).kept (AA.drew [] _) (by simp)).kept k9 (fun hm=>by have:=hlow _ hm;omega)).kept kS (by simp;omega),by show _≤W2.heap.size;omega⟩
    ·rw [Ar,BN];refine ⟨hm1.nodup,by simp,fun a ha b hb=>?_⟩;simp only [A0,Dg,AG] at hb;obtain ⟨r,hr,rfl⟩:=AR.1 ha;have:=(hm2 r hr).lt;omega
    ·rw [List.getElem?_append] at hi;split at hi
     ·exact hm1.like i r q' hi hq'
     ·rename_i hlt;have hi0:i=j:=by
       rcases BL (i - rs.length) 1 with h7 | h7
       ·omega
       ·rw [Ac (by simpa using h7)] at hi;cases hi
      subst hi0;rw [hq] at hq';cases hq';rw [show i - rs.length=0 by omega] at hi;simp at hi;subst hi
      exact ⟨rfl,rfl,rfl,rfl,rfl,hov⟩)
   have HkF:Hid (AA [W1.heap.size] Wb (w9.setCell ⟨W1.heap.size,2,none⟩ (.slice (some ⟨g9,0,none⟩) (rs.length+1) cap9))):=AD (kb2.trans_new kAll (fun i hi=>by
    rcases AJ.1 hi with rfl | hi
    ·exact .inl (by simp)
    ·exact .inr (by have:=hlow i hi;have:=Hzb.out;omega)))
   have Hrl:=AD hrl;clear hown9 hgrow hat k9 hcM hc9 hR9 kS hcS kMD kAll hrr hlow hrl;refine HK.out _ _ (fun _=>HF4.out) ?_;clear HK;try simp only [Act.put,AE,AK,AH]
   refine BZ 13 (by kernel_rfl) rfl ?_;intro K hK;have HK:=AD hK;clear hK;rw [if_pos (by rfl)];go_simp
   refine HK.out _ _ (fun _=>HF4.out) ?_;clear HK;try simp only [Act.put,AE,AK,AH]
   refine BZ 14 (by kernel_rfl) rfl ?_;intro K hK;have HK:=AD hK;clear hK;rw [if_pos (by rfl)];go_simp
   refine HK.out _ _ (fun _=>HF4.out) ?_;clear HK;try simp only [Act.put,AE,AK,AH]
   refine BZ 15 (by kernel_rfl) rfl ?_;intro K hK;have HK:=AD hK;clear hK;rw [if_pos (by rfl)];go_simp
   refine HK.out _ _ (fun h=>absurd rfl h) ?_;clear HK;refine Fj (by kernel_rfl) ?_;go_wp2_with fail
   go_roundw
   ·exact ⟨j+1,_,tv',mv',_,by simp,by omega,HMk.out,HkF.out⟩
   ·simp only [intOf];omega
  ·have hjI:¬ (j:Int)<m.rels.length:=(by omega);have e:j=m.rels.length:=(by omega);subst e;obtain ⟨gr,cr,hrv,hbse,hall,hset⟩:=hM.bse hf h0;subst hrv;have hbb:=hM.cells.lt;have Hlike:=AD (AU hM.len hM.like);have hlen0:rs.length=m.rels.length:=hM.len;have kwr:AA [] w wr:=kw.trans_new hk (fun i hi=>.inr (by simp only [AG] at hi;have:=Hz1.out;omega));have r1:=(h.cells.keeps kwr).cell 1;simp at r1;have Hlen0:=AD hlen0
   have HM2:Hid (lH w wr base W1.heap.size B (ST.mk0 12) gr cr rs rs tv mv none [] 0 [] (m.rels.map Prod.fst)):=AD ⟨hbse,fun i r hi=>by
    have q:=hall i r hi
    exact ⟨q.fa.iff fun l _=>by simp [E6],q.tu,q.ranks⟩,World.ownsRow_nil ..,fun j hj=>by simp [Value.ownBlock] at hj,hset,Ju.refl rs,fun k hk=>by simp at hk,rfl⟩
   have hbb1:w.heap.size≤W1.heap.size:=Hz1.out;have Hft:Hid (∀ j∈ftp B gr rs,w.heap.size≤j):=AD fun j hj=>by
    have hg:=(Am hM.row gr rfl).1;simp only [ftp,AJ,AC,AR] at hj;rcases hj with rfl | ⟨r,hr,rfl⟩ | hj
    ·omega
    ·have:=(hM.maps r hr).2;omega
    ·exact hown j hj
   have HAt:Hid (∀ a,Ip m a→∀ rs1,Ju rs rs1→TP rs1 a):=AD fun a ha rs1 hlk=>by
    have hra:=ha.rel;obtain ⟨r0,hr0⟩:∃ r0,rs[a.rel]?=some r0:=⟨_,AB (by omega)⟩;obtain ⟨q,hq⟩:∃ q,(EF m vals)[a.rel]?=some q:=⟨_,AB (by rw [Iv];omega)⟩;obtain ⟨r,h1,h2⟩:=hlk.2 _ r0 hr0;obtain ⟨a1,_⟩:=Hlike.out.2 _ r0 q hr0 hq;obtain ⟨nm,cols,h3,rfl⟩:=Gy.1 hq;have e:m.cols a.rel=cols:=(by simp [Mean.cols,h3]);have en:r.n=cols.length:=by rw [h2];simpa using a1
    exact ⟨⟨r,h1,by rw [ha.len,e,en],by rw [en];exact hf.cols _ (AF h3)⟩,ha.tms⟩
   clear hlen0 hM hbse hall hset p0 p1 hjI;go_wp2_with fail
   clear r1;rename World=>w1;go_loopw [48] (fun y wr=>∃ (j:Nat) (S1:ST) (rs1:List A9) (ka:Option Addr) (ks:List CluX) (kc:Nat),y=.int .i64 j∧j≤m.clauses.length∧lH w wr base W1.heap.size B S1 gr cr rs rs1 tv mv ka ks kc (m.clauses.take j) (m.rels.map Prod.fst)∧AA [] w wr∧S1.next≤2+33710000 * j) (fun y _=>((m.clauses.length:Int) - intOf y).toNat)
   case atStart=>exact ⟨0,_,rs,none,[],0,rfl,by omega,HM2.out,kwr,by show (2:Int)≤_;omega⟩
   case round=>
    obtain ⟨j,S1,rs1,ka,ks,kc,rfl,hj,hM,hkw,hn⟩:=hrel;have Hn:=AD hn;clear hn;by_cases hjl:j<m.clauses.length
    ·have hjI:(j:Int)<m.clauses.length:=(by omega);obtain ⟨gC,hgC⟩:=Eu h.cls (by omega);subst hgC;obtain ⟨c,hc⟩:∃ c,m.clauses[j]?=some c:=⟨_,AB hjl⟩;have hcm:=AF hc;obtain ⟨k,hkc,c0,c1,c2,hclu⟩:=h.clause hf hc;have hrk:=AI h.cls hkw;have q0:=BI hrk c0;have q1:=BI hrk c1;have q2:=BI hrk c2;have htk:m.clauses.take (j+1)=m.clauses.take j++[c]:=by rw [An,hc];rfl
     have Htk:=AD htk;obtain ⟨c',gt,tc,la,lc,lt⟩:=k;dsimp only at hkc q0 q1 q2;subst hkc;have kC:=AA.alloc [] wr (.cells #[.int .i64 (c'.head.rel:Int),.slice (some ⟨gt,0,none⟩) c'.head.terms.length tc,.slice la c'.lits.length lc] 154);have hC:=AM.new wr #[.int .i64 (c'.head.rel:Int),.slice (some ⟨gt,0,none⟩) c'.head.terms.length tc,.slice la c'.lits.length lc] 154;have zC:=AY wr (.cells #[.int .i64 (c'.head.rel:Int),.slice (some ⟨gt,0,none⟩) c'.head.terms.length tc,.slice la c'.lits.length lc] 154);generalize hWC:wr.alloc (.cells #[.int .i64 (c'.head.rel:Int),.slice (some ⟨gt,0,none⟩) c'.head.terms.length tc,.slice la c'.lits.length lc] 154)=WC at *;rename Ae=>c;have d0:=hC.cell 0;have d1:=hC.cell 1;have d2:=hC.cell 2;simp at d0 d1 d2;have hbC:=hM.bse.keeps0 kC;have hbl:=hM.bse.cells.lt;have hks52:ks.length≤52:=by
      have e:=congrArg List.length hM.ksc;rw [AZ] at e;have:=BX C0 (m.clauses.take j);rw [A5] at this;omega
     clear htk c0 c1 c2;by_cases hl0:0<c.lits.length
     ·have hlI:(0:Int)<(c.lits.length:Int):=(by omega);go_wp2_with fail
      go_upto_region 12 with fail
      have b3:=hbC.cells.cell 3;simp at b3;have HF1:Hid (WC.drew.cell? ⟨W1.heap.size,3,none⟩=some (.slice ka ks.length kc)∧WC.drew.cell? ⟨wr.heap.size,0,none⟩=some (.int .i64 (c.head.rel:Int))∧WC.drew.cell? ⟨wr.heap.size,1,none⟩=some (.slice (some ⟨gt,0,none⟩) c.head.terms.length tc)∧WC.drew.cell? ⟨wr.heap.size,2,none⟩=some (.slice la c.lits.length lc)):=AD ⟨b3,d0,d1,d2⟩;have kA:=AA.alloc [] WC (.cells #[.int .i64 (c.head.rel:Int),.slice (some ⟨gt,0,none⟩) c.head.terms.length tc,.slice la c.lits.length lc] 154);have zA:=AY WC (.cells #[.int .i64 (c.head.rel:Int),.slice (some ⟨gt,0,none⟩) c.head.terms.length tc,.slice la c.lits.length lc] 154);have HF2:Hid ((WC.alloc (.cells #[.int .i64 (c.head.rel:Int),.slice (some ⟨gt,0,none⟩) c.head.terms.length tc,.slice la c.lits.length lc] 154)).drew.cell? ⟨W1.heap.size,3,none⟩=some (.slice ka ks.length kc)∧(WC.alloc (.cells #[.int .i64 (c.head.rel:Int),.slice (some ⟨gt,0,none⟩) c.head.terms.length tc,.slice la c.lits.length lc] 154)).drew.cell? ⟨wr.heap.size,0,none⟩=some (.int .i64 (c.head.rel:Int))∧(WC.alloc (.cells #[.int .i64 (c.head.rel:Int),.slice (some ⟨gt,0,none⟩) c.head.terms.length tc,.slice la c.lits.length lc] 154)).drew.cell? ⟨wr.heap.size,1,none⟩=some (.slice (some ⟨gt,0,none⟩) c.head.terms.length tc)∧(WC.alloc (.cells #[.int .i64 (c.head.rel:Int),.slice (some ⟨gt,0,none⟩) c.head.terms.length tc,.slice la c.lits.length lc] 154)).drew.cell? ⟨wr.heap.size,2,none⟩=some (.slice la c.lits.length lc)):=AD ⟨by have:=(hbC.cells.keeps kA).cell 3;simpa using this,by have:=(hC.keeps kA).cell 0;simpa using this,by have:=(hC.keeps kA).cell 1;simpa using this,by have:=(hC.keeps kA).cell 2;simpa using this⟩;have hrowA:=AI hM.row (kC.trans (kA.trans (AA.drew [] _)));have three:=Rc (W:=WC) (a:=.int .i64 (c.head.rel:Int)) (b:=.slice (some ⟨gt,0,none⟩) c.head.terms.length tc) (c:=.slice la c.lits.length lc) (t:=154);rw [zC] at three;have HM:=AD hM;have HhC:=AD hC;have HbC:=AD hbC;clear b3 d0 d1 d2 q0 q1 q2 hM hC hbC;refine Fi 10 (fun w'=>w'.cell? ⟨W1.heap.size,3,none⟩=some (.slice ka ks.length kc)∧w'.cell? ⟨wr.heap.size,0,none⟩=some (.int .i64 (c.head.rel:Int))∧w'.cell? ⟨wr.heap.size,1,none⟩=some (.slice (some ⟨gt,0,none⟩) c.head.terms.length tc)∧w'.cell? ⟨wr.heap.size,2,none⟩=some (.slice la c.lits.length lc)) (by kernel_rfl) ?_;refine A7 0 (v:=?_) rfl (by kernel_rfl) (by kernel_rfl) (by kernel_rfl) (by kernel_rfl) (fun _ _ _ h=>h) (Au ⟨by rfl,?_⟩) HF1.out ?_;rotate_left
      ·(intro w' hSw;obtain ⟨s0,s1,s2,s3⟩:=hSw;go_simp;try with_reducible rfl)
      simp only [Act.put,AE,AK,AH];refine A7 1 (v:=?_) rfl (by kernel_rfl) (by kernel_rfl) (by kernel_rfl) (by kernel_rfl) (fun _ _ _ h=>h) (Au ⟨by rfl,?_⟩) HF1.out ?_;rotate_left
      ·(intro w' hSw;obtain ⟨s0,s1,s2,s3⟩:=hSw;go_simp;try with_reducible rfl)
      simp only [Act.put,AE,AK,AH];refine A7 2 (v:=?_) rfl (by kernel_rfl) (by kernel_rfl) (by kernel_rfl) (by kernel_rfl) (fun _ _ _ h=>h) (Au ⟨by rfl,?_⟩) HF1.out ?_;rotate_left
      ·(intro w' hSw;obtain ⟨s0,s1,s2,s3⟩:=hSw;go_simp;try with_reducible rfl)
      simp only [Act.put,AE,AK,AH];refine A7 3 (v:=?_) rfl (by kernel_rfl) (by kernel_rfl) (by kernel_rfl) (by kernel_rfl) (fun _ _ _ h=>h) (Au ⟨by rfl,?_⟩) HF1.out ?_;rotate_left
      ·(intro w' hSw;obtain ⟨s0,s1,s2,s3⟩:=hSw;go_simp;try with_reducible rfl)
      simp only [Act.put,AE,AK,AH];refine A7 4 (v:=?_) rfl (by kernel_rfl) (by kernel_rfl) (by kernel_rfl) (by kernel_rfl) (fun _ _ _ h=>h) (Au ⟨by rfl,?_⟩) HF1.out ?_;rotate_left
      ·(intro w' hSw;obtain ⟨s0,s1,s2,s3⟩:=hSw;go_simp;try with_reducible rfl)
      simp only [Act.put,AE,AK,AH];refine A7 5 (v:=?_) rfl (by kernel_rfl) (by kernel_rfl) (by kernel_rfl) (by kernel_rfl) (fun _ _ _ h=>h) (Au ⟨by rfl,?_⟩) HF1.out ?_;rotate_left
      ·(intro w' hSw;obtain ⟨s0,s1,s2,s3⟩:=hSw;go_simp;try with_reducible rfl)
      simp only [Act.put,AE,AK,AH];refine BZ 6 (by kernel_rfl) rfl ?_;intro K hK;have HK:=AD hK;clear hK;rw [if_pos (by rfl)];go_simp
      refine HK.out _ _ (fun _=>HF2.out) ?_;clear HK;try simp only [Act.put,AE,AK,AH]
      refine BZ 7 (by kernel_rfl) rfl ?_;intro K hK;have HK:=AD hK;clear hK;refine step_append_lies _ (by rfl) _ _ _ (by rfl) (W1.heap.size+1) 154 i4 _ 3 56 underlying124 hi4 hx0 hx1 hx2 rfl (by omega) (.slice ka ks.length kc) ks.length (QO ks) (by rfl) hrowA ⟨wr.heap.size+1,0,none⟩ 1 1 [.int .i64 (c.head.rel:Int),.slice (some ⟨gt,0,none⟩) c.head.terms.length tc,.slice la c.lits.length lc] (by rfl) (by rfl) three (by simp [Value.oneCell']) (by omega) (by unfold maxLen;omega) (by omega) (by show _≤(WC.alloc (.cells #[.int .i64 (c.head.rel:Int),.slice (some ⟨gt,0,none⟩) c.head.terms.length tc,.slice la c.lits.length lc] 154)).heap.size;rw [zA,zC];omega) (wr.heap.size+1+1) (by rw [←zC];exact zA) ?_;intro g9 cap9 w9 hown9 hgrow hat hlt9;have k9:=grownBy_keeps' hgrow (Aa (.slice ka ks.length kc)) (fun r e=>.inl (by simp [Aa,e]));have hlow:∀ i∈Aa (.slice ka ks.length kc),i<wr.heap.size∧i∉W1.heap.size :: ftp B gr rs:=fun i hi=>⟨(Ba HM.out.row i (by simpa [Aa] using hi)).2,HM.out.rowA i (by simpa [Aa] using hi)⟩;have hc9:=((HbC.out.cells.keeps kA).keeps (AA.drew [] _)).keeps k9 (fun hm=>(hlow _ hm).2 (by simp));have hC9:=((HhC.out.keeps kA).keeps (AA.drew [] _)).keeps k9 (fun hm=>by have:=(hlow _ hm).1;omega);have e0:=hc9.cell 3;have f0:=hc9.frozen 3;simp at e0;have HF4:Hid (w9.cell? ⟨W1.heap.size,3,none⟩=some (.slice ka ks.length kc)∧w9.cell? ⟨wr.heap.size,0,none⟩=some (.int .i64 (c.head.rel:Int))∧w9.cell? ⟨wr.heap.size,1,none⟩=some (.slice (some ⟨gt,0,none⟩) c.head.terms.length tc)∧w9.cell? ⟨wr.heap.size,2,none⟩=some (.slice la c.lits.length lc)):=AD ⟨e0,by have:=hC9.cell 0;simpa using this,by have:=hC9.cell 1;simpa using this,by have:=hC9.cell 2;simpa using this⟩;have kp:AA (Aa (.slice ka ks.length kc)) wr w9:=((kC.trans (kA.trans (AA.drew [] _))).mono (by simp)).trans k9;have HM2:=AD (HM.out.rule (k:=⟨c,gt,tc,la,lc,lt⟩) hclu hl0 hown9 kp (hat.imp id (fun e=>by omega)));have HkF:Hid (AA [] w (w9.setCell ⟨W1.heap.size,3,none⟩ (.slice (some ⟨g9,0,none⟩) (ks.length+1) cap9))):=AD ((hkw.trans_new kp (fun i hi=>.inr (by have:=(Am HM.out.row i (by simpa [Aa] using hi)).1;omega))).trans_new (AA.setCell _ _ _) (fun i hi=>.inr (by simp only [AG] at hi;omega)));clear hown9 hgrow hat k9 hlow hc9 hC9 kp hrowA three;refine HK.out _ _ (fun _=>HF4.out) ?_;clear HK;try simp only [Act.put,AE,AK,AH]
      refine BZ 8 (by kernel_rfl) rfl ?_;intro K hK;have HK:=AD hK;clear hK;rw [if_pos (by rfl)];go_simp
      refine HK.out _ _ (fun _=>HF4.out) ?_;clear HK;try simp only [Act.put,AE,AK,AH]
      refine BZ 9 (by kernel_rfl) rfl ?_;intro K hK;have HK:=AD hK;clear hK;rw [if_pos (by rfl)];go_simp
      refine HK.out _ _ (fun _=>HF4.out) ?_;clear HK;try simp only [Act.put,AE,AK,AH]
      refine BZ 10 (by kernel_rfl) rfl ?_;intro K hK;have HK:=AD hK;clear hK;rw [if_pos (by rfl)];go_simp
      refine HK.out _ _ (fun h=>absurd rfl h) ?_;clear HK;refine Fj (by kernel_rfl) ?_;go_wp2_with fail
      go_roundw
      ·exact ⟨j+1,S1,rs1,some ⟨g9,0,none⟩,ks++[⟨c,gt,tc,la,lc,lt⟩],cap9,by simp,by omega,by rw [Htk.out];exact HM2.out,HkF.out,by have:=Hn.out;push_cast;omega⟩
      ·simp only [intOf];omega
     ·have hl9:c.lits=[]:=List.eq_nil_of_length_eq_zero (by omega);have e9:c.lits.length=0:=(by omega);have Hl9:=AD hl9;rw [e9] at hWC d2 hC q2;clear e9;have hfi:=hf.heads c hcm;obtain ⟨r,hr,hrn,_⟩:=(HAt.out _ hfi _ hM.like).rel;have hρ:=(AL.1 hr).1;have hρI:(c.head.rel:Int)<rs1.length:=(by omega);have hrn3:=hM.bse.cols r (AF hr);obtain ⟨cs,hcs,hcss⟩:=hbC.rel;have hrc:=hcss _ r hr;have b2:=hbC.cells.cell 2;have b4:=hbC.cells.cell 4;have g2:WC.cell? ⟨gr,c.head.rel * 5+2,none⟩=some (.int .i64 r.fa):=by rw [hcs.cell];exact hrc.c2
      simp at b2 b4;have hh0:IW w gt c.head.terms:=(hclu [] (by simp)).head;have hgt:gt∉B.own:=fun hm=>by have:=hown gt hm;have:gt<w.heap.size:=hh0.1;omega
      have Hrn:=AD hrn;have HM:=AD hM;clear hrn hM hl0 hl9;go_wp2_with fail
      go_quiet (fail)
      have kD:=AA.drewN [] WC nq;have zD:(WC.drewN nq).heap.size=wr.heap.size+1:=zC;have hbD:=hbC.keeps0 kD;have hCD:=hC.keeps kD;have kWD:=kC.trans kD;have g2D:(WC.drewN nq).cell? ⟨gr,c.head.rel * 5+2,none⟩=some (.int .i64 r.fa):=g2;clear b2 b4 g2 d0 d1 d2 hcs hcss hrc q0 q1 q2;generalize WC.drewN nq=WD at *;go_upto_region 14 with fail
      have b4:=hbD.cells.cell 4;have d0:=hCD.cell 0;have d1:=hCD.cell 1;simp at b4 d0 d1;have HF1:Hid (WD.drew.cell? ⟨W1.heap.size,4,none⟩=some (.pointer (some ⟨B.b,0,none⟩))∧WD.drew.cell? ⟨gr,c.head.rel * 5+2,none⟩=some (.int .i64 r.fa)∧WD.drew.cell? ⟨wr.heap.size,0,none⟩=some (.int .i64 (c.head.rel:Int))∧WD.drew.cell? ⟨wr.heap.size,1,none⟩=some (.slice (some ⟨gt,0,none⟩) c.head.terms.length tc)):=AD ⟨b4,g2D,d0,d1⟩;have kDD:=AA.drew [] WD;have hhd:=AD (X4 (w:=WD.drew) (c:=tc) (ρ:=(c.head.rel:Int)) (f:=1) (R:=fun _=>True) (hbD.eng.keeps0 kDD) (hbD.bs.keeps kDD) hgt ((hh0.keeps (hkw.trans kWD)).keeps kDD) hfi.tms (by have:=Hrn.out;omega) ⟨G8 S1,fun σ=>by simp [Da]⟩ (by have:=Hn.out;unfold Fq;omega));have hbDD:=hbD.keeps0 kDD;have hCDD:=hCD.keeps kDD;have zown:wr.heap.size∉B.own:=fun hm=>by have:=hBlt _ hm;omega
      obtain ⟨cs,hcs,hcss⟩:=hbDD.rel;have hcf:=(hcss _ r hr).c2;clear b4 d0 d1 g2D;refine Fi 16 (fun w'=>w'.cell? ⟨W1.heap.size,4,none⟩=some (.pointer (some ⟨B.b,0,none⟩))∧w'.cell? ⟨gr,c.head.rel * 5+2,none⟩=some (.int .i64 r.fa)∧w'.cell? ⟨wr.heap.size,0,none⟩=some (.int .i64 (c.head.rel:Int))∧w'.cell? ⟨wr.heap.size,1,none⟩=some (.slice (some ⟨gt,0,none⟩) c.head.terms.length tc)) (by kernel_rfl) ?_;refine A7 0 (v:=?_) rfl (by kernel_rfl) (by kernel_rfl) (by kernel_rfl) (by kernel_rfl) (fun _ _ _ h=>h) (Au ⟨by rfl,?_⟩) HF1.out ?_;rotate_left
      ·(intro w' hSw;obtain ⟨s0,s1,s2,s3⟩:=hSw;go_simp;try with_reducible rfl)
      simp only [Act.put,AE,AK,AH];refine A7 1 (v:=?_) rfl (by kernel_rfl) (by kernel_rfl) (by kernel_rfl) (by kernel_rfl) (fun _ _ _ h=>h) (Au ⟨by rfl,?_⟩) HF1.out ?_;rotate_left
      ·(intro w' hSw;obtain ⟨s0,s1,s2,s3⟩:=hSw;go_simp;try with_reducible rfl)
      simp only [Act.put,AE,AK,AH];refine A7 2 (v:=?_) rfl (by kernel_rfl) (by kernel_rfl) (by kernel_rfl) (by kernel_rfl) (fun _ _ _ h=>h) (Au ⟨by rfl,?_⟩) HF1.out ?_;rotate_left
      ·(intro w' hSw;obtain ⟨s0,s1,s2,s3⟩:=hSw;go_simp;try with_reducible rfl)
      simp only [Act.put,AE,AK,AH];refine A7 3 (v:=?_) rfl (by kernel_rfl) (by kernel_rfl) (by kernel_rfl) (by kernel_rfl) (fun _ _ _ h=>h) (Au ⟨by rfl,?_⟩) HF1.out ?_;rotate_left
      ·(intro w' hSw;obtain ⟨s0,s1,s2,s3⟩:=hSw;go_simp;try with_reducible rfl)
      simp only [Act.put,AE,AK,AH];refine A7 4 (v:=?_) rfl (by kernel_rfl) (by kernel_rfl) (by kernel_rfl) (by kernel_rfl) (fun _ _ _ h=>h) (Au ⟨by rfl,?_⟩) HF1.out ?_;rotate_left
      ·(intro w' hSw;obtain ⟨s0,s1,s2,s3⟩:=hSw;go_simp;try with_reducible rfl)
      simp only [Act.put,AE,AK,AH];refine A7 5 (v:=?_) rfl (by kernel_rfl) (by kernel_rfl) (by kernel_rfl) (by kernel_rfl) (fun _ _ _ h=>h) (Au ⟨by rfl,?_⟩) HF1.out ?_;rotate_left
      ·(intro w' hSw;obtain ⟨s0,s1,s2,s3⟩:=hSw;go_simp;try with_reducible rfl)
      simp only [Act.put,AE,AK,AH];refine A7 6 (v:=?_) rfl (by kernel_rfl) (by kernel_rfl) (by kernel_rfl) (by kernel_rfl) (fun _ _ _ h=>h) (Au ⟨by rfl,?_⟩) HF1.out ?_;rotate_left
      ·(intro w' hSw;obtain ⟨s0,s1,s2,s3⟩:=hSw;go_simp;try with_reducible rfl)
      simp only [Act.put,AE,AK,AH];refine A7 7 (v:=?_) rfl (by kernel_rfl) (by kernel_rfl) (by kernel_rfl) (by kernel_rfl) (fun _ _ _ h=>h) (Au ⟨by rfl,?_⟩) HF1.out ?_;rotate_left
      ·(intro w' hSw;obtain ⟨s0,s1,s2,s3⟩:=hSw;go_simp;try with_reducible rfl)
      simp only [Act.put,AE,AK,AH];refine A7 8 (v:=?_) rfl (by kernel_rfl) (by kernel_rfl) (by kernel_rfl) (by kernel_rfl) (fun _ _ _ h=>h) (Au ⟨by rfl,?_⟩) HF1.out ?_;rotate_left
      ·(intro w' hSw;obtain ⟨s0,s1,s2,s3⟩:=hSw;go_simp;try with_reducible rfl)
      simp only [Act.put,AE,AK,AH];refine A7 9 (v:=?_) rfl (by kernel_rfl) (by kernel_rfl) (by kernel_rfl) (by kernel_rfl) (fun _ _ _ h=>h) (Au ⟨by rfl,?_⟩) HF1.out ?_;rotate_left
      ·(intro w' hSw;obtain ⟨s0,s1,s2,s3⟩:=hSw;go_simp;try with_reducible rfl)
      simp only [Act.put,AE,AK,AH];refine A7 10 (v:=?_) rfl (by kernel_rfl) (by kernel_rfl) (by kernel_rfl) (by kernel_rfl) (fun _ _ _ h=>h) (Au ⟨by rfl,?_⟩) HF1.out ?_;rotate_left
      ·(intro w' hSw;obtain ⟨s0,s1,s2,s3⟩:=hSw;go_simp;try with_reducible rfl)
      simp only [Act.put,AE,AK,AH];refine A7 11 (v:=?_) rfl (by kernel_rfl) (by kernel_rfl) (by kernel_rfl) (by kernel_rfl) (fun _ _ _ h=>h) (Au ⟨by rfl,?_⟩) HF1.out ?_;rotate_left
      ·(intro w' hSw;obtain ⟨s0,s1,s2,s3⟩:=hSw;go_simp;try with_reducible rfl)
      simp only [Act.put,AE,AK,AH];refine BZ 12 (by kernel_rfl) rfl ?_;intro K hK;have HK:=AD hK;clear hK;refine Az rfl 74 _ _ rfl _ func74 (by kernel_rfl) (by kernel_rfl) [.pointer (some ⟨W1.heap.size,0,none⟩),.int .i64 1,.agg #[.int .i64 (c.head.rel:Int),.slice (some ⟨gt,0,none⟩) c.head.terms.length tc]] rfl ?_;refine hhd.out.mono ?_;rintro e W5 ⟨y5,S5,rfl,hE5,k5,x5,n5,hr5⟩;have F5:W5.cell? ⟨W1.heap.size,4,none⟩=some (.pointer (some ⟨B.b,0,none⟩))∧W5.cell? ⟨gr,c.head.rel * 5+2,none⟩=some (.int .i64 r.fa)∧W5.cell? ⟨wr.heap.size,0,none⟩=some (.int .i64 (c.head.rel:Int))∧W5.cell? ⟨wr.heap.size,1,none⟩=some (.slice (some ⟨gt,0,none⟩) c.head.terms.length tc):=⟨by have:=(hbDD.cells.keeps k5 hbDD.bbB).cell 4;simpa using this,by rw [(hcs.keeps k5 hbDD.grB).cell];exact hcf,by have:=(hCDD.keeps k5 zown).cell 0;simpa using this,by have:=(hCDD.keeps k5 zown).cell 1;simpa using this⟩;have hor:=AD (bY hE5 (f:=r.fa) (g:=y5) (F:=fun σ=>E6 (m.clauses.take j) c.head.rel (EC σ 0 r.n)) (((HM.out.all _ r hr).fa.ext x5 HM.out.bse.eng.wf hE5.wf)) hr5 (by have:=Hn.out;unfold Fq;omega));refine HK.out _ _ (fun _=>F5) ?_;clear HK hhd;try simp only [Act.put,AE,AK,AH]
      refine BZ 13 (by kernel_rfl) rfl ?_;intro K hK;have HK:=AD hK;clear hK;refine Az rfl 73 _ _ rfl _ func73 (by kernel_rfl) (by kernel_rfl) [.pointer (some ⟨B.b,0,none⟩),.int .i64 r.fa,.int .i64 y5] rfl ?_;refine hor.out.mono ?_;rintro e W6 ⟨y6,S6,rfl,hE6,k6,x6,n6,hr6⟩;have k56:=k5.trans k6;have HF6:Hid (W6.cell? ⟨W1.heap.size,4,none⟩=some (.pointer (some ⟨B.b,0,none⟩))∧W6.cell? ⟨gr,c.head.rel * 5+2,none⟩=some (.int .i64 r.fa)∧W6.cell? ⟨wr.heap.size,0,none⟩=some (.int .i64 (c.head.rel:Int))∧W6.cell? ⟨wr.heap.size,1,none⟩=some (.slice (some ⟨gt,0,none⟩) c.head.terms.length tc)):=AD ⟨by have:=(hbDD.cells.keeps k56 hbDD.bbB).cell 4;simpa using this,by rw [(hcs.keeps k56 hbDD.grB).cell];exact hcf,by have:=(hCDD.keeps k56 zown).cell 0;simpa using this,by have:=(hCDD.keeps k56 zown).cell 1;simpa using this⟩;have e2:W6.cell? ⟨gr,c.head.rel * 5+2,none⟩=some (.int .i64 r.fa):=HF6.out.2.1;have f2:=(hcs.keeps k56 hbDD.grB).frozen (c.head.rel * 5+2);refine HK.out _ _ (fun _=>HF6.out) ?_;clear HK hor;try simp only [Act.put,AE,AK,AH]
      have kp:AA B.own wr W6:=((kWD.trans kDD).mono (by simp)).trans k56
      have HM2:=AD (HM.out.fact kp hE6 (x5.trans x6) Hl9.out hr (y:=y6) ⟨hr6.1,fun σ=>by
       rw [hr6.2 σ];refine or_congr Iff.rfl ?_;rw [Hrn.out];constructor
       ·rintro ⟨ν,a,_,b⟩;exact ⟨ν,a,b⟩
       ·rintro ⟨ν,a,b⟩;exact ⟨ν,a,trivial,b⟩⟩)
      have HkF:Hid (AA [] w (W6.setCell ⟨gr,c.head.rel * 5+2,none⟩ (.int .i64 y6))):=AD ((hkw.trans_new kp (fun i hi=>.inr (hown i hi))).trans_new (AA.setCell _ _ _) (fun i hi=>.inr (by simp only [AG] at hi;rw [hi];exact Hft.out gr (by simp [ftp]))));have Hn6:Hid (S6.next≤S1.next+33710000):=AD (by omega);clear kp hbDD hCDD hcs hcss hcf hr6 hr5;refine BZ 14 (by kernel_rfl) rfl ?_;intro K hK;have HK:=AD hK;clear hK;rw [if_pos (by rfl)];go_simp
      refine HK.out _ _ (fun _=>HF6.out) ?_;clear HK;try simp only [Act.put,AE,AK,AH]
      refine BZ 15 (by kernel_rfl) rfl ?_;intro K hK;have HK:=AD hK;clear hK;rw [if_pos (by rfl)];go_simp
      refine HK.out _ _ (fun _=>HF6.out) ?_;clear HK;try simp only [Act.put,AE,AK,AH]
      refine BZ 16 (by kernel_rfl) rfl ?_;intro K hK;have HK:=AD hK;clear hK;rw [if_pos (by rfl)];go_simp
      refine HK.out _ _ (fun h=>absurd rfl h) ?_;clear HK;refine Fj (by kernel_rfl) ?_;go_wp2_with fail
      go_roundw
      ·exact ⟨j+1,S6,_,ka,ks,kc,by simp,by omega,by rw [Htk.out];exact HM2.out,HkF.out,by have:=Hn.out;have:=Hn6.out;push_cast;omega⟩
      ·simp only [intOf];omega
    ·have hjI:¬ (j:Int)<m.clauses.length:=(by omega);have e:j=m.clauses.length:=(by omega);subst e;rw [Bm] at hM;have hbase:base≤W1.heap.size:=by have:=h.low;have:=h.cells.lt;omega
     have hkl:=nC hM hkw Hft.out hbase;have hlk:=hM.like;have hks:∀ k∈ks,Jl rs1 k.c∧0<k.c.lits.length:=fun k hk=>by
      have:k.c∈m.clauses.filter C0:=by rw [←hM.ksc];exact AR.2 ⟨k,hk,rfl⟩
      obtain ⟨h1,h2⟩:=Ap.1 this;exact ⟨⟨HAt.out _ (hf.heads _ h1) _ hlk,fun l hl=>HAt.out _ (hf.lits _ h1 l hl) _ hlk,hf.ok.lits _ h1⟩,by simpa [C0] using h2⟩
     have hks52:ks.length≤52:=by
      have e:=congrArg List.length hM.ksc;rw [AZ] at e;have:=BX C0 m.clauses;omega
     have hwk:=AD (OL hM.bse hM.all (hkl.sub (fun j hj=>AC.2 (.inr hj))) hks hks52 (by rw [hlk.1,Hlen0.out];exact h0) 0 (by omega) (by have:=Hn.out;unfold Fq;omega));clear hks;go_wp2_with fail
     refine hwk.out.mono ?_;rintro e W9 ⟨rfl,rs9,S9,rk9,hb9,lk9,k9,n9,ha9,hs9⟩;have Hn9:=AD n9;clear n9;go_wp2_with fail
     go_ret
     have ef:=lk9.ftp (B:=B) (gr:=gr);have ef1:=hlk.ftp (B:=B) (gr:=gr);refine ⟨W1.heap.size,B,S9,gr,cr,rs9,tv,mv,ka,ks,kc,rk9,rfl,⟨hb9,ha9,by rw [ef];exact hkl.keeps k9 (fun j hj=>.inl (AC.2 (.inr hj))),hM.ksc,?_,fun j hj=>?_,by rw [lk9.1,hlk.1,Hlen0.out],fun i r nm cols hi hc=>?_⟩,hs9.like lk9 |> fun q=>by rw [lk9.1];exact q,by have:=Hn.out;have:=Hn9.out;omega,hkw.trans_new k9 (fun j hj=>.inr (Hft.out j (by rw [←ef1];exact hj)))⟩
     ·rw [ef,ef1];have hs:=hM.set.keeps k9 (fun j hj=>.inl (AO _ (by rw [←ef1];exact hj)));exact ⟨EW hs.row (by omega),hs.rowA,hs.map.imp id (fun ⟨r,a,b,c,d⟩=>⟨r,a,b,by omega,d⟩)⟩
     ·rcases AJ.1 hj with rfl | hj
      ·exact hbase
      ·have:=Hft.out j (by rw [←ef1,←ef];exact hj);have:=h.low;have:=h.cells.lt;omega
     ·have hil:=(AL.1 hi).1;obtain ⟨r1,hr1⟩:∃ r1,rs1[i]?=some r1:=⟨_,AB (by rw [←lk9.1];exact hil)⟩;obtain ⟨r0,hr0⟩:∃ r0,rs[i]?=some r0:=⟨_,AB (by rw [←hlk.1,←lk9.1];exact hil)⟩;obtain ⟨r',h1,h2⟩:=lk9.2 i r1 hr1;rw [hi] at h1;cases h1;obtain ⟨r'',h3,h4⟩:=hlk.2 i r0 hr0;rw [hr1] at h3;cases h3;obtain ⟨a1,a2,_,_,_,a6⟩:=Hlike.out.2 i r0 _ hr0 (Gy.2 ⟨nm,cols,hc,rfl⟩);have hcp:=hf.cols _ (AF hc);have en:r0.n=(cols.map m.size).length:=a1;rw [en] at a6;obtain ⟨g,cap,e1,e2,e3,_⟩:=IL (xs:=cols.map m.size) a6 (by simpa using hcp);injection e1 with e1 _ _;have hgl:=e3.lt;have hgno:g∉W1.heap.size :: ftp B gr rs9:=fun hm=>by
       rcases AJ.1 hm with e | hm
       ·omega
       ·have:=Hft.out g (by rw [←ef1,←ef];exact hm);omega
      have es1:r1.sa=r0.sa:=(by rw [h4]);have en1:r1.n=r0.n:=(by rw [h4]);have el1:r1.layer=r0.layer:=(by rw [h4]);refine ⟨by rw [h2.n,en1,en];simp,by rw [h2.layer,el1];exact a2,g,by rw [h2.sa,es1];exact e1,hgno,e2,(e3.keepsE hkw).keepsE k9 (fun hm=>hgno (AO _ (by rw [ef];exact hm)))⟩
end
section
open Go.RowKit Go.Shelf
attribute [local go_sem] Oper.semAt_some
section
variable {w:World} {bb gr cr:Nat} {B:SB} {S:ST} {rs:List A9} {x0 x1 x3:Value}
theorem Y0 (h:FZ w bb B S gr cr rs x0 x1 x3) {Fs:Nat→List Nat→Prop} {rk:Nat→List Nat→Option Nat} (ha:ES S rs Fs rk) {i:Nat} {r:A9} (hi:rs[i]?=some r) {g cap:Nat} {l:List Nat} (hrow:Bt w g (J2 l)) (hl:l∈C7 r.n) :
  Calls prog 51 #[.pointer (some ⟨bb,0,none⟩),.int .i64 (i:Int),.slice (some ⟨g,0,none⟩) l.length cap] w fun e w'=>e=.returned (.tuple #[.int .i64 (((rk i l).getD 0:Nat):Int),.bool (rk i l).isSome])∧AA [] w w':=by
 obtain ⟨hl1,hl2⟩:=FH.1 hl;have hrm:=AF hi;have hn3:=h.cols r hrm;have hg:=(ha i r hi).ranks l hl;obtain ⟨cs,hc,hcs⟩:=h.rel;have hil:(i:Int)<rs.length:=by have:=(AL.1 hi).1;omega
 have g4:w.cell? ⟨gr,i * 5+4,none⟩=some (.map (some r.rm)):=by rw [hc.cell];exact (hcs i r hi).c4
 have g2:=h.cells.cell 2;simp at g2;have hkeep:=AD (fun (W:World) (k:AA [] w W)=>show W.cell? ⟨bb,2,none⟩=some (.slice (some ⟨gr,0,none⟩) rs.length cr)∧W.cell? ⟨gr,i * 5+4,none⟩=some (.map (some r.rm)) from ⟨by have:=(h.cells.keeps k).cell 2;simpa using this,by rw [(hc.keeps k).cell];exact (hcs i r hi).c4⟩);have has:=AD (fun (W:World) (k:AA [] w W)=>MZ (w:=W) (cap:=cap) (hrow.keepsE k) (by omega) hl2);have hlk:=AD (fun (W:World) (k:AA [] w W)=>ET (P:=prog) underlying146 I1 (z:=.int .i64 0) LH ((h.maps r hrm).kept k (by simp)) (asn l:Int) true);rw [hg] at hlk;have Hl1:=AD hl1;generalize hrv:rk i l=v at hlk ⊢;clear hi hl hl1 hc hcs hg ha h hrow hrv;go_in
 go_wp2_with fail
 go_region_held3 (fun w'=>w'.cell? ⟨bb,2,none⟩=some (.slice (some ⟨gr,0,none⟩) rs.length cr)∧w'.cell? ⟨gr,i * 5+4,none⟩=some (.map (some r.rm))) (first | exact ⟨g2,g4⟩ | exact ⟨a0,a1⟩)
  (first
  | (go_at_call 86
     refine (has.out _ (AA.drew [] _)).mono ?_;rintro e W5 ⟨rfl,k5⟩;obtain ⟨a0,a1⟩:=hkeep.out W5 ((AA.drew [] w).trans k5);have hlk5:=hlk.out W5 ((AA.drew [] w).trans k5)
     simp only [eI,if_true] at hlk5))
 all_goals
  go_wp2_with fail
  go_ret2
  exact ⟨by cases v <;> rfl,(AA.drew [] w).trans k5⟩
theorem Ou {z:Nat} {X:List Nat} {ns:List ByteArray} (h:FZ w bb B S gr cr rs x0 x1 x3) (hs:GK w z X x0 x1 ns) (s:ByteArray):Calls prog 39 #[.pointer (some ⟨bb,0,none⟩),.string s] w fun e w'=>e=.returned (.tuple #[.int .i64 ((Dc ns s).getD 0:Nat),.bool (Dc ns s).isSome])∧w' = w:=by
 have g1:=h.cells.cell 1;simp at g1;have hp:=AD (EV (B:=bb) (o:=0) hs g1 s);clear g1;go_in
 go_wp2_with fail
 refine hp.out.mono ?_;rintro e w1 ⟨rfl,rfl⟩;go_wp2_with fail
 go_ret2
 exact ⟨rfl,rfl⟩
theorem Zd (h:FZ w bb B S gr cr rs x0 x1 x3) {i:Nat} {r:A9} (hi:rs[i]?=some r) {gs:Nat} {ss:List Int} (hsa:r.sa=some ⟨gs,0,none⟩) (hss:Bt w gs ss) (hsn:ss.length=r.n) {g cap:Nat} {l:List Nat} (hrow:Bt w g (J2 l)) (hln:l.length=r.n) (hfit:∀ (k:Nat) (x:Nat) (y:Int),l[k]?=some x→ss[k]?=some y→(x:Int)<y) :
  Calls prog 84 #[.pointer (some ⟨bb,0,none⟩),.int .i64 (i:Int),.slice (some ⟨g,0,none⟩) l.length cap] w fun e w'=>e=.returned (.bool true)∧AA [] w w':=by
 obtain ⟨cs,hc,hcs⟩:=h.rel;have hn3:=h.cols r (AF hi);have hil:(i:Int)<rs.length:=by have:=(AL.1 hi).1;omega
 have g0:w.cell? ⟨gr,i * 5,none⟩=some (.slice (some ⟨gs,0,none⟩) r.n r.cc):=by rw [hc.cell,←hsa];exact (hcs i r hi).c0
 have g2:=h.cells.cell 2;simp at g2;have Hln:=AD hln;have Hsn:=AD hsn;clear hi hln hsn hc hcs h hsa;go_in
 go_wp2_with fail
 go_loopw [18] (fun y wr=>∃ (k:Nat),y=.int .i64 k∧k≤r.n∧AA [] w wr) (fun y _=>((r.n:Int) - intOf y).toNat)
 case atStart=>exact ⟨0,rfl,by omega,AA.refl _ _⟩
 case round=>
  obtain ⟨k,rfl,hk,hkw⟩:=hrel;by_cases hkn:k<r.n
  ·have hkI:(k:Int)<r.n:=(by omega);have hkl:(k:Int)<l.length:=by have:=Hln.out;omega
   obtain ⟨y,hy⟩:∃ y,ss[k]?=some y:=⟨_,AB (by rw [Hsn.out];exact hkn)⟩;obtain ⟨x,hx⟩:∃ x,l[k]?=some x:=⟨_,AB (by rw [Hln.out];exact hkn)⟩;have hlt:=hfit k x y hx hy;obtain ⟨c1,e1,e2⟩:=hss.keepsE hkw;obtain ⟨c3,e3,e4⟩:=hrow.keepsE hkw;have q1:wr.cell? ⟨gs,k,none⟩=some (.int .i64 y):=by rw [e1.cell];exact e2 k y hy
   have q2:wr.cell? ⟨g,k,none⟩=some (.int .i64 (x:Int)):=by rw [e3.cell];exact e4 k (x:Int) (by simp [J2,hx])
   have hx0:¬ (x:Int)<0:=(by omega);have hxy:¬ y≤(x:Int):=(by omega);clear hx hy e1 e2 e3 e4;go_wp2_with fail
   exact ⟨⟨k+1,by simp,by omega,hkw⟩,by simp only [intOf];omega⟩
  ·have hkI:¬ (k:Int)<r.n:=(by omega);go_wp2_with fail
   go_ret
   exact ⟨rfl,hkw⟩
end
structure Nv (m:Mean) (i:Nat) (l:List Nat):Prop where
 rel:∃ nm cols,m.rels[i]?=some (nm,cols)∧l.length=cols.length∧∀ (k x d:Nat),l[k]?=some x→cols[k]?=some d→(x:Int)<m.size d
theorem Xj {m:Mean} (h:DF m) (d:Nat):m.size d≤8:=by
 unfold Mean.size;cases hd:m.doms[d]? with
 | none=>simp
 | some x=>exact (h.sizes x (AF hd)).2
section
variable {w:World} {z eb bb:Nat} {B:SB} {S:ST} {gr cr:Nat} {rs:List A9} {tv mv:Value} {ka:Option Addr} {ks:List CluX} {kc:Nat} {m:Mean} {vals:List Nat} {Fs:Nat→List Nat→Prop} {rk:Nat→List Nat→Option Nat}
theorem EM.keeps0 {w':World} (h:EM w z bb B S gr cr rs tv mv ka ks kc m vals Fs rk) (k:AA [] w w'):EM w' z bb B S gr cr rs tv mv ka ks kc m vals Fs rk:=
 ⟨h.bse.keeps0 k,h.all,h.kls.keeps k,h.ksc,h.set.keeps k,h.low,h.len,fun i r nm cols hi hc=>by
  obtain ⟨a,b,g,c,d,e,f⟩:=h.rels i r nm cols hi hc
  exact ⟨a,b,g,c,d,e,f.keepsE k⟩⟩
theorem EM.tup (h:EM w z bb B S gr cr rs tv mv ka ks kc m vals Fs rk) (hok:DF m) {i:Nat} {l:List Nat} (ht:Nv m i l):∃ r gs ss,rs[i]?=some r∧r.sa=some ⟨gs,0,none⟩∧Bt w gs ss∧ss.length=r.n∧l.length=r.n∧(∀ (k:Nat) (x:Nat) (y:Int),l[k]?=some x→ss[k]?=some y→(x:Int)<y)∧l∈C7 r.n:=by
 obtain ⟨nm,cols,hc,hl,hx⟩:=ht.rel;have hil:=(AL.1 hc).1;obtain ⟨r,hr⟩:∃ r,rs[i]?=some r:=⟨_,AB (by rw [h.len];exact hil)⟩;obtain ⟨a,_,g,b,_,_,e⟩:=h.rels i r nm cols hr hc;refine ⟨r,g,_,hr,b,e,by rw [a];simp,by rw [a];exact hl,fun k x y h1 h2=>?_,FH.2 ⟨by rw [a];exact hl,fun x hxm=>?_⟩⟩
 ·rw [AX] at h2;obtain ⟨d,hd,rfl⟩:=Cn.1 h2;exact hx k x d h1 hd
 ·obtain ⟨k,hk,rfl⟩:=A3 hxm;have:=hx k _ _ (AB hk) (AB (by rw [←hl];exact hk));have:=Xj hok (cols[k]'(by rw [←hl];exact hk));omega
theorem Ig (h:EM w z bb B S gr cr rs tv mv ka ks kc m vals Fs rk) (hok:DF m) (he:AM w eb #[.pointer (some ⟨bb,0,none⟩)]) {s:ByteArray} {i:Nat} (hs:Dc (m.rels.map Prod.fst) s=some i) {g cap:Nat} {l:List Nat} (hrow:Bt w g (J2 l)) (ht:Nv m i l) :
  Calls prog 46 #[.pointer (some ⟨eb,0,none⟩),.string s,.slice (some ⟨g,0,none⟩) l.length cap] w fun e w'=>e=.returned (.tuple #[.int .i64 (i:Int),.int .i64 0])∧AA [] w w':=by
 obtain ⟨r,gs,ss,hr,hsa,hss,hsn,hln,hfit,_⟩:=h.tup hok ht;have hpl:=AD (fun (W:World) (k:AA [] w W)=>Ou (h.bse.keeps0 k) (h.set.keeps k) s);rw [hs] at hpl;have hco:=AD (fun (W:World) (k:AA [] w W)=>St (h.bse.keeps0 k) hr);rw [←hln] at hco;have hfi:=AD (fun (W:World) (k:AA [] w W)=>Zd (cap:=cap) (h.bse.keeps0 k) hr hsa (hss.keepsE k) hsn (hrow.keepsE k) hln hfit);have e0:=he.cell 0;simp at e0;clear hln hsn hs;go_in
 go_wp2_with fail
 refine (hpl.out _ (AA.refl _ _)).mono ?_;rintro e w1 ⟨rfl,rfl⟩;go_wp2_with fail
 refine (hco.out _ (AA.refl _ _)).mono ?_;rintro e w1 ⟨rfl,rfl⟩;go_wp2_with fail
 refine (hfi.out _ (AA.refl _ _)).mono ?_;rintro e w1 ⟨rfl,k1⟩;go_wp2_with fail
 go_ret2
 exact ⟨rfl,k1⟩
end
end
end Go.Proofs.YtgjomknpjigkhaaGreatDoor
