import Derived.Test.YtgjomknpjigkhaaGreatDoorS16
namespace Go.Proofs.YtgjomknpjigkhaaGreatDoor
set_option maxRecDepth 100000
set_option maxHeartbeats 4000000
section
open Go.RowKit
def ListTo (base b g:Nat) (r:Except Nat (List Tn×List Tn)) (e:Ending) (w':World):Prop:=match r with
 | .ok (ts,us)=>∃ v,e=.returned v∧w'.ownsRow base 129 3 v ts.length (tokCs ts)∧PAt w' b g us
 | .error l=>e=gaveUp 5 l
theorem tk_one {W:World} (t:Tn):∀ (j:Nat) (x:Value),(tokC t)[j]?=some x→(W.alloc (.cells #[.string (kindOf t.g),.string (txt t.g),.int .i64 t.line] 129)).cell? ((⟨W.heap.size,0,none⟩:Addr).add j)=some x:=tk_cell (a:=.string (kindOf t.g)) (b:=.string (txt t.g)) (c:=.int .i64 t.line)
theorem rowTok (W:World) (base:Nat) (t:Tn) (hb:base≤W.heap.size):(W.alloc (.cells #[.string (kindOf t.g),.string (txt t.g),.int .i64 t.line] 129)).ownsRow base 129 3 (.slice (some ⟨W.heap.size,0,none⟩) 1 1) 1 (tokCs [t]):=
 ⟨rfl,.inr ⟨W.heap.size,1,#[.string (kindOf t.g),.string (txt t.g),.int .i64 t.line],rfl,hb,(MapKept.heap_alloc W _).1,Nat.le_refl _,by unfold maxLen;omega,rfl,rfl⟩⟩
def sLen:Option Value→Nat | some (.slice _ n _)=>n | _=>0
theorem PAt.len {w:World} {b g:Nat} {us:List Tn} (h:PAt w b g us):sLen (w.cell? ⟨b,0,none⟩)=us.length:=by
 obtain ⟨o,c,h1,_⟩:=h
 rw [h1.cell]
 rfl
def aheadL (d:List Tn):Except Nat (List Tn×List Tn)→Except Nat (List Tn×List Tn)
 | .ok (r,us)=>.ok (d++r,us)
 | .error l=>.error l
theorem listG_ok {p:Sg→Bool} {us us1 us2:List Tn} {t1 t2:Tn} (h1:takeG isLpG us=.ok (t1,us1)) (h2:takeG p us1=.ok (t2,us2)):listG p us=aheadL [t2] (restG p us2.length us2):=by
 unfold listG
 rw [h1]
 simp only
 rw [h2]
 simp only
 cases restG p us2.length us2 with
 | error l=>rfl
 | ok q=>obtain ⟨r,xs⟩:=q;rfl
theorem listG_e1 {p:Sg→Bool} {us:List Tn} {l:Nat} (h1:takeG isLpG us=.error l):listG p us=.error l:=by
 unfold listG
 rw [h1]
theorem listG_e2 {p:Sg→Bool} {us us1:List Tn} {t1:Tn} {l:Nat} (h1:takeG isLpG us=.ok (t1,us1)) (h2:takeG p us1=.error l):listG p us=.error l:=by
 unfold listG
 rw [h1]
 simp only
 rw [h2]
theorem list252_calls {w:World} {b g:Nat} {us:List Tn} (h:PAt w b g us) (he:Ended us) (hl:us.length≤1000000):Calls Tryz.prog 251 #[.pointer (some ⟨b,0,none⟩),.func (.func 252) #[.pointer (some ⟨b,0,none⟩)] #[]] w fun e w'=>ListTo w.heap.size b g (listG isNameG us) e w'∧Keeps [b] w w':=by
 obtain ⟨i0,hi0,hz0,hz1,hz2⟩:=info_parts info129
 have hT1:=hide (take_calls kp_lp rfl h he hl)
 have hOne:=hide (fun (w:World) (us:List Tn) (h:PAt w b g us) (he:Ended us) (hl:us.length≤1000000)=>column_calls h he hl)
 have hComma:=hide (fun (w:World) (us:List Tn) (h:PAt w b g us) (he:Ended us) (hl:us.length≤1000000)=>takes_calls kp_comma rfl h he hl)
 have hRp:=hide (fun (w:World) (us:List Tn) (h:PAt w b g us) (he:Ended us) (hl:us.length≤1000000)=>take_calls kp_rp rfl h he hl)
 obtain ⟨hblt,hglt⟩:=h.lt
 clear h
 cases hr1:takeG isLpG us with
 | error l=>
  rw [hr1] at hT1
  rw [listG_e1 hr1]
  go_enter Tryz.func251,Tryz.ntmps251
  go_wp2_with fail
  refine hT1.out.mono ?_
  rintro e w1 ⟨rfl,k1⟩
  exact ⟨rfl,rfl,k1⟩
 | ok q1=>
  obtain ⟨t1,us1⟩:=q1
  rw [hr1] at hT1
  have g1:=(takeG_goes lp_noFin he hr1).1
  cases hr2:takeG isNameG us1 with
  | error l=>
   rw [listG_e2 hr1 hr2]
   go_enter Tryz.func251,Tryz.ntmps251
   go_wp2_with fail
   refine hT1.out.mono ?_
   rintro e w1 ⟨⟨rfl,hp1⟩,k1⟩
   have h2:=hide (hOne.out w1 us1 hp1 g1.2 (by have:=g1.1;omega))
   rw [hr2] at h2
   go_wp2_with fail
   refine h2.out.mono ?_
   rintro e w2 ⟨rfl,k2⟩
   exact ⟨rfl,rfl,k1.trans k2⟩
  | ok q2=>
   obtain ⟨t2,us2⟩:=q2
   have g2:=(takeG_goes (p:=isNameG) rfl g1.2 hr2).1
   rw [listG_ok hr1 hr2]
   generalize hR2:aheadL [t2] (restG isNameG us2.length us2)=R
   have HR2:=hide hR2
   clear hR2
   go_enter Tryz.func251,Tryz.ntmps251
   go_wp2_with fail
   refine hT1.out.mono ?_
   rintro e w1 ⟨⟨rfl,hp1⟩,k1⟩
   have h2:=hide (hOne.out w1 us1 hp1 g1.2 (by have:=g1.1;omega))
   rw [hr2] at h2
   go_wp2_with fail
   refine h2.out.mono ?_
   rintro e w2 ⟨⟨rfl,hp2⟩,k2⟩
   have hrow:=rowTok w2 w.heap.size t2 (by have:=k1.size;have:=k2.size;omega)
   have kA:=Keeps.alloc [b] w2 (.cells #[.string (kindOf t2.g),.string (txt t2.g),.int .i64 t2.line] 129)
   have hp3:=alloc_at w2 hp2 (.cells #[.string (kindOf t2.g),.string (txt t2.g),.int .i64 t2.line] 129)
   have k3:Keeps [b] w (w2.alloc (.cells #[.string (kindOf t2.g),.string (txt t2.g),.int .i64 t2.line] 129)):=(k1.trans k2).trans kA
   unfold tokV
   go_wp2_with fail
   go_loopw [5] (fun y wr=>∃ (k:Nat) (d vs:List Tn),wr.ownsRow w.heap.size 129 3 y d.length (tokCs d)∧PAt wr b g vs∧Ended vs∧vs.length≤k∧d.length+vs.length≤us.length∧Keeps [b] w wr∧aheadL d (restG isNameG k vs)=R) (fun _ wr=>sLen (wr.cell? ⟨b,0,none⟩))
   case atStart=>exact ⟨us2.length,[t2],us2,hrow,hp3,g2.2,Nat.le_refl _,by have:=g1.1;have:=g2.1;simp;omega,k3,HR2.out⟩
   case round=>
    obtain ⟨k,d,vs,own,hpv,hev,hkv,hdv,kr,hres⟩:=hrel
    have hlen:=hpv.len
    obtain ⟨k,rfl⟩:∃ k',k=k' + 1:=by obtain ⟨t,q,rfl⟩:=hev.cons;simp at hkv;exact ⟨k - 1,by omega⟩
    have hC:=hide (hComma.out wr vs hpv hev (by omega))
    have hpl:=hide hpv
    rw [restG] at hres
    cases hs:sees isCommaG vs with
    | true=>
     rw [hs] at hC
     rw [hs,if_pos rfl] at hres
     have g3:=sees_goes comma_noFin hev hs
     cases hr3:takeG isNameG vs.tail with
     | error l=>
      rw [hr3] at hres
      have Hres:=hide hres
      clear hres hpv hlen
      go_wp2_with fail
      refine hC.out.mono ?_
      rintro e w3 ⟨rfl,hp4,k4⟩
      have h5:=hide (hOne.out w3 vs.tail hp4 g3.2 (by have:=g3.1;omega))
      rw [hr3] at h5
      go_wp2_with fail
      refine h5.out.mono ?_
      rintro e w4 ⟨rfl,k5⟩
      refine ⟨rfl,?_,(kr.trans k4).trans k5⟩
      rw [←Hres.out]
      rfl
     | ok q3=>
      obtain ⟨t3,us3⟩:=q3
      rw [hr3] at hres
      have g4:=(takeG_goes (p:=isNameG) rfl g3.2 hr3).1
      have hah:aheadL (d++[t3]) (restG isNameG k us3)=R:=by
       rw [←hres]
       show _=aheadL d (match restG isNameG k us3 with
        | .error l=>Except.error l
        | .ok (r,vs)=>.ok (t3 :: r,vs))
       cases restG isNameG k us3 with
       | error l=>rfl
       | ok q=>obtain ⟨r,xs⟩:=q;simp [aheadL]
      have Hah:=hide hah
      have hlen2:=hide hlen
      clear hres hah hpv hlen
      obtain ⟨ay,cy,rfl⟩:=ownE_len own
      go_wp2_with fail
      refine hC.out.mono ?_
      rintro e w3 ⟨rfl,hp4,k4⟩
      have h5:=hide (hOne.out w3 vs.tail hp4 g3.2 (by have:=g3.1;omega))
      rw [hr3] at h5
      go_wp2_with fail
      refine h5.out.mono ?_
      rintro e w4 ⟨⟨rfl,hp5⟩,k5⟩
      have hnb:∀ j,(Value.slice ay d.length cy).ownBlock=some j→j≠b∧j≠g:=fun j hj=>by have:=(ownE_base own j hj).1;omega
      have kB:=(k4.trans k5).trans (Keeps.alloc [b] w4 (.cells #[.string (kindOf t3.g),.string (txt t3.g),.int .i64 t3.line] 129))
      have ownB:=ownsRow_kept own kB (fun j hj h=>(hnb j hj).1 (by simpa using h))
      have hp6:=alloc_at w4 hp5 (.cells #[.string (kindOf t3.g),.string (txt t3.g),.int .i64 t3.line] 129)
      have hone:=tk_one (W:=w4) t3
      have hszB:w.heap.size≤(w4.alloc (.cells #[.string (kindOf t3.g),.string (txt t3.g),.int .i64 t3.line] 129)).heap.size:=by rw [sizeE_alloc];have:=kr.size;have:=k4.size;have:=k5.size;omega
      unfold tokV
      go_wp2_with (at_builtin;refine wpList_append_own_at _ rfl _ _ 125 rfl w.heap.size 129 i0 (.agg #[.string ⟨#[]⟩,.string ⟨#[]⟩,.int .i64 0]) 3 40 Tryz.underlying125 hi0 hz0 hz1 hz2 rfl (by decide) _ d.length (tokCs d) rfl ownB ⟨w4.heap.size,0,none⟩ 1 1 [.string (kindOf t3.g),.string (txt t3.g),.int .i64 t3.line] rfl (by simp) hone (by simp [Value.oneCell']) (by unfold maxLen;omega) (by omega) hszB ?_)
      intro v' W2 own2 grow2 nil2 at2
      have k2':=grownBy_keeps' grow2 (Value.slice ay d.length cy).ownBlock.toList (fun r e=>.inl (by simp [e]))
      have kf:Keeps [b] w W2:=(kr.trans kB).trans_new k2' fun j hj=>.inr (ownE_base own j (by simpa using hj)).1
      have hp7:PAt W2 b g us3:=hp6.keeps k2' (fun h=>(hnb b (by simpa using h)).1 rfl) (fun h=>(hnb g (by simpa using h)).2 rfl)
      have hlen7:=hide hp7.len
      have Hp7:=hide hp7
      clear hp7
      go_wp2_with fail
      go_roundw
      ·exact ⟨k,d++[t3],us3,by rw [tokCs_append,List.length_append];exact own2,Hp7.out,g4.2,by have:=g3.1;have:=g4.1;omega,by have:=g3.1;have:=g4.1;rw [List.length_append,List.length_singleton];omega,kf,Hah.out⟩
      ·rw [hlen7.out,hlen2.out];have:=g3.1;have:=g4.1;omega
    | false=>
     rw [hs] at hC
     rw [hs,if_neg (by decide)] at hres
     cases hr3:takeG isRpG vs with
     | error l=>
      rw [hr3] at hres
      have Hres:=hide hres
      clear hres hpv hlen
      go_wp2_with fail
      refine hC.out.mono ?_
      rintro e w3 ⟨rfl,hp4,k4⟩
      have h5:=hide (hRp.out w3 vs hp4 hev (by omega))
      rw [hr3] at h5
      go_wp2_with fail
      refine h5.out.mono ?_
      rintro e w4 ⟨rfl,k5⟩
      refine ⟨rfl,?_,(kr.trans k4).trans k5⟩
      rw [←Hres.out]
      rfl
     | ok q3=>
      obtain ⟨t3,us3⟩:=q3
      rw [hr3] at hres
      have Hres:=hide hres
      clear hres hpv hlen
      go_wp2_with fail
      refine hC.out.mono ?_
      rintro e w3 ⟨rfl,hp4,k4⟩
      have h5:=hide (hRp.out w3 vs hp4 hev (by omega))
      rw [hr3] at h5
      go_wp2_with fail
      refine h5.out.mono ?_
      rintro e w4 ⟨⟨rfl,hp5⟩,k5⟩
      go_wp2_with fail
      go_ret
      refine ⟨?_,(kr.trans k4).trans k5⟩
      rw [←Hres.out]
      refine ⟨_,rfl,?_,hp5⟩
      rw [List.append_nil]
      exact ownsRow_kept own (k4.trans k5) (fun j hj h=>by have:=(ownE_base own j hj).1;have e:j=b:=(by simpa using h);omega)
theorem list298_calls {w:World} {b g:Nat} {us:List Tn} (h:PAt w b g us) (he:Ended us) (hl:us.length≤1000000):Calls Tryz.prog 251 #[.pointer (some ⟨b,0,none⟩),.func (.func 298) #[.pointer (some ⟨b,0,none⟩)] #[]] w fun e w'=>ListTo w.heap.size b g (listG isTermG us) e w'∧Keeps [b] w w':=by
 obtain ⟨i0,hi0,hz0,hz1,hz2⟩:=info_parts info129
 have hT1:=hide (take_calls kp_lp rfl h he hl)
 have hOne:=hide (fun (w:World) (us:List Tn) (h:PAt w b g us) (he:Ended us) (hl:us.length≤1000000)=>term_calls h he hl)
 have hComma:=hide (fun (w:World) (us:List Tn) (h:PAt w b g us) (he:Ended us) (hl:us.length≤1000000)=>takes_calls kp_comma rfl h he hl)
 have hRp:=hide (fun (w:World) (us:List Tn) (h:PAt w b g us) (he:Ended us) (hl:us.length≤1000000)=>take_calls kp_rp rfl h he hl)
 obtain ⟨hblt,hglt⟩:=h.lt
 clear h
 cases hr1:takeG isLpG us with
 | error l=>
  rw [hr1] at hT1
  rw [listG_e1 hr1]
  go_enter Tryz.func251,Tryz.ntmps251
  go_wp2_with fail
  refine hT1.out.mono ?_
  rintro e w1 ⟨rfl,k1⟩
  exact ⟨rfl,rfl,k1⟩
 | ok q1=>
  obtain ⟨t1,us1⟩:=q1
  rw [hr1] at hT1
  have g1:=(takeG_goes lp_noFin he hr1).1
  cases hr2:takeG isTermG us1 with
  | error l=>
   rw [listG_e2 hr1 hr2]
   go_enter Tryz.func251,Tryz.ntmps251
   go_wp2_with fail
   refine hT1.out.mono ?_
   rintro e w1 ⟨⟨rfl,hp1⟩,k1⟩
   have h2:=hide (hOne.out w1 us1 hp1 g1.2 (by have:=g1.1;omega))
   rw [hr2] at h2
   go_wp2_with fail
   refine h2.out.mono ?_
   rintro e w2 ⟨rfl,k2⟩
   exact ⟨rfl,rfl,k1.trans k2⟩
  | ok q2=>
   obtain ⟨t2,us2⟩:=q2
   have g2:=(takeG_goes (p:=isTermG) rfl g1.2 hr2).1
   rw [listG_ok hr1 hr2]
   generalize hR2:aheadL [t2] (restG isTermG us2.length us2)=R
   have HR2:=hide hR2
   clear hR2
   go_enter Tryz.func251,Tryz.ntmps251
   go_wp2_with fail
   refine hT1.out.mono ?_
   rintro e w1 ⟨⟨rfl,hp1⟩,k1⟩
   have h2:=hide (hOne.out w1 us1 hp1 g1.2 (by have:=g1.1;omega))
   rw [hr2] at h2
   go_wp2_with fail
   refine h2.out.mono ?_
   rintro e w2 ⟨⟨rfl,hp2⟩,k2⟩
   have hrow:=rowTok w2 w.heap.size t2 (by have:=k1.size;have:=k2.size;omega)
   have kA:=Keeps.alloc [b] w2 (.cells #[.string (kindOf t2.g),.string (txt t2.g),.int .i64 t2.line] 129)
   have hp3:=alloc_at w2 hp2 (.cells #[.string (kindOf t2.g),.string (txt t2.g),.int .i64 t2.line] 129)
   have k3:Keeps [b] w (w2.alloc (.cells #[.string (kindOf t2.g),.string (txt t2.g),.int .i64 t2.line] 129)):=(k1.trans k2).trans kA
   unfold tokV
   go_wp2_with fail
   go_loopw [5] (fun y wr=>∃ (k:Nat) (d vs:List Tn),wr.ownsRow w.heap.size 129 3 y d.length (tokCs d)∧PAt wr b g vs∧Ended vs∧vs.length≤k∧d.length+vs.length≤us.length∧Keeps [b] w wr∧aheadL d (restG isTermG k vs)=R) (fun _ wr=>sLen (wr.cell? ⟨b,0,none⟩))
   case atStart=>exact ⟨us2.length,[t2],us2,hrow,hp3,g2.2,Nat.le_refl _,by have:=g1.1;have:=g2.1;simp;omega,k3,HR2.out⟩
   case round=>
    obtain ⟨k,d,vs,own,hpv,hev,hkv,hdv,kr,hres⟩:=hrel
    have hlen:=hpv.len
    obtain ⟨k,rfl⟩:∃ k',k=k' + 1:=by obtain ⟨t,q,rfl⟩:=hev.cons;simp at hkv;exact ⟨k - 1,by omega⟩
    have hC:=hide (hComma.out wr vs hpv hev (by omega))
    have hpl:=hide hpv
    rw [restG] at hres
    cases hs:sees isCommaG vs with
    | true=>
     rw [hs] at hC
     rw [hs,if_pos rfl] at hres
     have g3:=sees_goes comma_noFin hev hs
     cases hr3:takeG isTermG vs.tail with
     | error l=>
      rw [hr3] at hres
      have Hres:=hide hres
      clear hres hpv hlen
      go_wp2_with fail
      refine hC.out.mono ?_
      rintro e w3 ⟨rfl,hp4,k4⟩
      have h5:=hide (hOne.out w3 vs.tail hp4 g3.2 (by have:=g3.1;omega))
      rw [hr3] at h5
      go_wp2_with fail
      refine h5.out.mono ?_
      rintro e w4 ⟨rfl,k5⟩
      refine ⟨rfl,?_,(kr.trans k4).trans k5⟩
      rw [←Hres.out]
      rfl
     | ok q3=>
      obtain ⟨t3,us3⟩:=q3
      rw [hr3] at hres
      have g4:=(takeG_goes (p:=isTermG) rfl g3.2 hr3).1
      have hah:aheadL (d++[t3]) (restG isTermG k us3)=R:=by
       rw [←hres]
       show _=aheadL d (match restG isTermG k us3 with
        | .error l=>Except.error l
        | .ok (r,vs)=>.ok (t3 :: r,vs))
       cases restG isTermG k us3 with
       | error l=>rfl
       | ok q=>obtain ⟨r,xs⟩:=q;simp [aheadL]
      have Hah:=hide hah
      have hlen2:=hide hlen
      clear hres hah hpv hlen
      obtain ⟨ay,cy,rfl⟩:=ownE_len own
      go_wp2_with fail
      refine hC.out.mono ?_
      rintro e w3 ⟨rfl,hp4,k4⟩
      have h5:=hide (hOne.out w3 vs.tail hp4 g3.2 (by have:=g3.1;omega))
      rw [hr3] at h5
      go_wp2_with fail
      refine h5.out.mono ?_
      rintro e w4 ⟨⟨rfl,hp5⟩,k5⟩
      have hnb:∀ j,(Value.slice ay d.length cy).ownBlock=some j→j≠b∧j≠g:=fun j hj=>by have:=(ownE_base own j hj).1;omega
      have kB:=(k4.trans k5).trans (Keeps.alloc [b] w4 (.cells #[.string (kindOf t3.g),.string (txt t3.g),.int .i64 t3.line] 129))
      have ownB:=ownsRow_kept own kB (fun j hj h=>(hnb j hj).1 (by simpa using h))
      have hp6:=alloc_at w4 hp5 (.cells #[.string (kindOf t3.g),.string (txt t3.g),.int .i64 t3.line] 129)
      have hone:=tk_one (W:=w4) t3
      have hszB:w.heap.size≤(w4.alloc (.cells #[.string (kindOf t3.g),.string (txt t3.g),.int .i64 t3.line] 129)).heap.size:=by rw [sizeE_alloc];have:=kr.size;have:=k4.size;have:=k5.size;omega
      unfold tokV
      go_wp2_with (at_builtin;refine wpList_append_own_at _ rfl _ _ 125 rfl w.heap.size 129 i0 (.agg #[.string ⟨#[]⟩,.string ⟨#[]⟩,.int .i64 0]) 3 40 Tryz.underlying125 hi0 hz0 hz1 hz2 rfl (by decide) _ d.length (tokCs d) rfl ownB ⟨w4.heap.size,0,none⟩ 1 1 [.string (kindOf t3.g),.string (txt t3.g),.int .i64 t3.line] rfl (by simp) hone (by simp [Value.oneCell']) (by unfold maxLen;omega) (by omega) hszB ?_)
      intro v' W2 own2 grow2 nil2 at2
      have k2':=grownBy_keeps' grow2 (Value.slice ay d.length cy).ownBlock.toList (fun r e=>.inl (by simp [e]))
      have kf:Keeps [b] w W2:=(kr.trans kB).trans_new k2' fun j hj=>.inr (ownE_base own j (by simpa using hj)).1
      have hp7:PAt W2 b g us3:=hp6.keeps k2' (fun h=>(hnb b (by simpa using h)).1 rfl) (fun h=>(hnb g (by simpa using h)).2 rfl)
      have hlen7:=hide hp7.len
      have Hp7:=hide hp7
      clear hp7
      go_wp2_with fail
      go_roundw
      ·exact ⟨k,d++[t3],us3,by rw [tokCs_append,List.length_append];exact own2,Hp7.out,g4.2,by have:=g3.1;have:=g4.1;omega,by have:=g3.1;have:=g4.1;rw [List.length_append,List.length_singleton];omega,kf,Hah.out⟩
      ·rw [hlen7.out,hlen2.out];have:=g3.1;have:=g4.1;omega
    | false=>
     rw [hs] at hC
     rw [hs,if_neg (by decide)] at hres
     cases hr3:takeG isRpG vs with
     | error l=>
      rw [hr3] at hres
      have Hres:=hide hres
      clear hres hpv hlen
      go_wp2_with fail
      refine hC.out.mono ?_
      rintro e w3 ⟨rfl,hp4,k4⟩
      have h5:=hide (hRp.out w3 vs hp4 hev (by omega))
      rw [hr3] at h5
      go_wp2_with fail
      refine h5.out.mono ?_
      rintro e w4 ⟨rfl,k5⟩
      refine ⟨rfl,?_,(kr.trans k4).trans k5⟩
      rw [←Hres.out]
      rfl
     | ok q3=>
      obtain ⟨t3,us3⟩:=q3
      rw [hr3] at hres
      have Hres:=hide hres
      clear hres hpv hlen
      go_wp2_with fail
      refine hC.out.mono ?_
      rintro e w3 ⟨rfl,hp4,k4⟩
      have h5:=hide (hRp.out w3 vs hp4 hev (by omega))
      rw [hr3] at h5
      go_wp2_with fail
      refine h5.out.mono ?_
      rintro e w4 ⟨⟨rfl,hp5⟩,k5⟩
      go_wp2_with fail
      go_ret
      refine ⟨?_,(kr.trans k4).trans k5⟩
      rw [←Hres.out]
      refine ⟨_,rfl,?_,hp5⟩
      rw [List.append_nil]
      exact ownsRow_kept own (k4.trans k5) (fun j hj h=>by have:=(ownE_base own j hj).1;have e:j=b:=(by simpa using h);omega)
end
section
open Go.RowKit
theorem ownE_mono {w:World} {base base':Nat} {e:TypeId} {size:Nat} {v:Value} {n:Nat} {xs:List Value} (h:w.ownsRow base e size v n xs) (hb:base'≤base):w.ownsRow base' e size v n xs:=by
 obtain ⟨h1,h2⟩:=h
 refine ⟨h1,?_⟩
 rcases h2 with h2 | ⟨g,cap,cur,h3,h4,h5⟩
 ·exact .inl h2
 ·exact .inr ⟨g,cap,cur,h3,by omega,h5⟩
theorem size327:(Tryz.prog.info? 327).map (·.size)=some 4:=by kernel_rfl
theorem size353:(Tryz.prog.info? 353).map (·.size)=some 5:=by kernel_rfl
def AtomTo (base b g:Nat) (r:Except Nat (AtomI×List Tn)) (e:Ending) (w':World):Prop:=match r with
 | .ok (a,us)=>∃ v,e=.returned (.agg #[.string (kindOf a.name.g),.string (txt a.name.g),.int .i64 a.name.line,v])∧w'.ownsRow base 129 3 v a.terms.length (tokCs a.terms)∧PAt w' b g us
 | .error l=>e=gaveUp 5 l
theorem atom_calls {w:World} {b g:Nat} {us:List Tn} (h:PAt w b g us) (he:Ended us) (hl:us.length≤1000000):Calls Tryz.prog 289 #[.pointer (some ⟨b,0,none⟩)] w fun e w'=>AtomTo w.heap.size b g (atomG us) e w'∧Keeps [b] w w':=by
 have h2:=hide (take_calls kp_name rfl (alloc_at w h (.cells #[.string ⟨#[]⟩,.string ⟨#[]⟩,.int .i64 0,.slice none 0 0] 327)) he hl)
 have kA:=Keeps.alloc [b] w (.cells #[.string ⟨#[]⟩,.string ⟨#[]⟩,.int .i64 0,.slice none 0 0] 327)
 have hA:=CellsAt.new w #[.string ⟨#[]⟩,.string ⟨#[]⟩,.int .i64 0,.slice none 0 0] 327
 obtain ⟨hblt,hglt⟩:=h.lt
 clear h
 unfold atomG
 cases hr:takeG isNameG us with
 | error l=>
  rw [hr] at h2
  go_enter Tryz.func289,Tryz.ntmps289
  go_wp2_with fail
  refine h2.out.mono ?_
  rintro e w1 ⟨rfl,k1⟩
  exact ⟨rfl,rfl,kA.trans k1⟩
 | ok q=>
  obtain ⟨t,vs⟩:=q
  rw [hr] at h2
  have g1:=(takeG_goes name_noFin he hr).1
  simp only
  cases hr2:listG isTermG vs with
  | error l=>
   go_enter Tryz.func289,Tryz.ntmps289
   go_wp2_with fail
   refine h2.out.mono ?_
   rintro e w1 ⟨⟨rfl,hp1⟩,k1⟩
   have h3:=hide (list298_calls hp1 g1.2 (by have:=g1.1;omega))
   rw [hr2] at h3
   go_wp2_with fail
   refine h3.out.mono ?_
   rintro e w2 ⟨rfl,k2⟩
   exact ⟨rfl,rfl,(kA.trans k1).trans k2⟩
  | ok q2=>
   obtain ⟨ts,us2⟩:=q2
   go_enter Tryz.func289,Tryz.ntmps289
   go_wp2_with fail
   refine h2.out.mono ?_
   rintro e w1 ⟨⟨rfl,hp1⟩,k1⟩
   have h3:=hide (list298_calls hp1 g1.2 (by have:=g1.1;omega))
   rw [hr2] at h3
   go_wp2_with fail
   refine h3.out.mono ?_
   rintro e w2 ⟨⟨v,rfl,own,hp2⟩,k2⟩
   have hsz1:w.heap.size+1≤w1.heap.size:=by have:=k1.size;rw [sizeE_alloc] at this;exact this
   have hR:=res4 (hA.keeps (k1.trans k2) (by simp;omega)) (.string (kindOf t.g)) (.string (txt t.g)) (.int .i64 t.line) v
   obtain ⟨c0,f0,c1,f1,c2,f2,c3,f3,hat,hk⟩:=hR
   have Hat:=hide hat
   have Hk:=hide hk
   obtain ⟨av,cv,hv⟩:=ownE_len own
   subst hv
   have Hown:=hide own
   clear hat hk own
   unfold tokV
   go_wp2_with fail
   refine bodyPost_ret (v:=.agg #[.string (kindOf t.g),.string (txt t.g),.int .i64 t.line,.slice av ts.length cv]) (ret_cell (p:=2) (ty:=327) (by kernel_rfl) _ Hat.out Tryz.underlying327 size327 rfl) rfl ⟨⟨_,rfl,?_,hp2.keeps Hk.out (by simp;omega) (by simp;omega)⟩,((kA.trans k1).trans k2).trans_new Hk.out (by simp)⟩
   exact ownE_mono (ownsRow_kept Hown.out Hk.out (fun j hj h=>by have:=(ownE_base Hown.out j hj).1;have e:j=w.heap.size:=(by simpa using h);omega)) (by omega)
def LitTo (base b g:Nat) (r:Except Nat (LitI×List Tn)) (e:Ending) (w':World):Prop:=match r with
 | .ok (a,us)=>∃ v,e=.returned (.agg #[.string (kindOf a.atom.name.g),.string (txt a.atom.name.g),.int .i64 a.atom.name.line,v,.bool a.no])∧w'.ownsRow base 129 3 v a.atom.terms.length (tokCs a.atom.terms)∧PAt w' b g us
 | .error l=>e=gaveUp 5 l
theorem lit_calls {w:World} {b g:Nat} {us:List Tn} (h:PAt w b g us) (he:Ended us) (hl:us.length≤1000000):Calls Tryz.prog 290 #[.pointer (some ⟨b,0,none⟩)] w fun e w'=>LitTo w.heap.size b g (litG us) e w'∧Keeps [b] w w':=by
 have h2:=hide (takes_calls kp_bang rfl (alloc_at w h (.cells #[.string ⟨#[]⟩,.string ⟨#[]⟩,.int .i64 0,.slice none 0 0,.bool false] 353)) he hl)
 have kA:=Keeps.alloc [b] w (.cells #[.string ⟨#[]⟩,.string ⟨#[]⟩,.int .i64 0,.slice none 0 0,.bool false] 353)
 have hA:=CellsAt.new w #[.string ⟨#[]⟩,.string ⟨#[]⟩,.int .i64 0,.slice none 0 0,.bool false] 353
 obtain ⟨hblt,hglt⟩:=h.lt
 clear h
 unfold litG
 split
 ·rename_i hs
  rw [hs] at h2
  have hev:Ended us.tail∧us.tail.length≤1000000:=by have g1:=sees_goes bang_noFin he hs;exact ⟨g1.2,by have:=g1.1;omega⟩
  cases hr2:atomG us.tail with
  | error l=>
   go_enter Tryz.func290,Tryz.ntmps290
   go_wp2_with fail
   refine h2.out.mono ?_
   rintro e w1 ⟨rfl,hp1,k1⟩
   have h3:=hide (atom_calls (us:=us.tail) hp1 hev.1 hev.2)
   rw [hr2] at h3
   go_wp2_with fail
   refine h3.out.mono ?_
   rintro e w2 ⟨rfl,k2⟩
   exact ⟨rfl,rfl,(kA.trans k1).trans k2⟩
  | ok q2=>
   obtain ⟨a,us2⟩:=q2
   go_enter Tryz.func290,Tryz.ntmps290
   go_wp2_with fail
   refine h2.out.mono ?_
   rintro e w1 ⟨rfl,hp1,k1⟩
   have h3:=hide (atom_calls (us:=us.tail) hp1 hev.1 hev.2)
   rw [hr2] at h3
   go_wp2_with fail
   refine h3.out.mono ?_
   rintro e w2 ⟨⟨v,rfl,own,hp2⟩,k2⟩
   have hsz1:w.heap.size+1≤w1.heap.size:=by have:=k1.size;rw [sizeE_alloc] at this;exact this
   have hR:=res5 (hA.keeps (k1.trans k2) (by simp;omega)) (.string (kindOf a.name.g)) (.string (txt a.name.g)) (.int .i64 a.name.line) v (.bool true)
   obtain ⟨c0,f0,c1,f1,c2,f2,c3,f3,c4,f4,hat,hk⟩:=hR
   have Hat:=hide hat
   have Hk:=hide hk
   obtain ⟨av,cv,hv⟩:=ownE_len own
   subst hv
   have Hown:=hide own
   clear hat hk own
   go_wp2_with fail
   refine bodyPost_ret (v:=.agg #[.string (kindOf a.name.g),.string (txt a.name.g),.int .i64 a.name.line,.slice av a.terms.length cv,.bool true]) (ret_cell (p:=2) (ty:=353) (by kernel_rfl) _ Hat.out Tryz.underlying353 size353 rfl) rfl ⟨⟨_,rfl,?_,hp2.keeps Hk.out (by simp;omega) (by simp;omega)⟩,((kA.trans k1).trans k2).trans_new Hk.out (by simp)⟩
   exact ownE_mono (ownsRow_kept Hown.out Hk.out (fun j hj h=>by have:=(ownE_base Hown.out j hj).1;have e:j=w.heap.size:=(by simpa using h);omega)) (by omega)
 ·rename_i hs
  rw [Bool.not_eq_true] at hs
  rw [hs] at h2
  have hev:Ended us∧us.length≤1000000:=⟨he,hl⟩
  cases hr2:atomG us with
  | error l=>
   go_enter Tryz.func290,Tryz.ntmps290
   go_wp2_with fail
   refine h2.out.mono ?_
   rintro e w1 ⟨rfl,hp1,k1⟩
   have h3:=hide (atom_calls (us:=us) hp1 hev.1 hev.2)
   rw [hr2] at h3
   go_wp2_with fail
   refine h3.out.mono ?_
   rintro e w2 ⟨rfl,k2⟩
   exact ⟨rfl,rfl,(kA.trans k1).trans k2⟩
  | ok q2=>
   obtain ⟨a,us2⟩:=q2
   go_enter Tryz.func290,Tryz.ntmps290
   go_wp2_with fail
   refine h2.out.mono ?_
   rintro e w1 ⟨rfl,hp1,k1⟩
   have h3:=hide (atom_calls (us:=us) hp1 hev.1 hev.2)
   rw [hr2] at h3
   go_wp2_with fail
   refine h3.out.mono ?_
   rintro e w2 ⟨⟨v,rfl,own,hp2⟩,k2⟩
   have hsz1:w.heap.size+1≤w1.heap.size:=by have:=k1.size;rw [sizeE_alloc] at this;exact this
   have hR:=res5 (hA.keeps (k1.trans k2) (by simp;omega)) (.string (kindOf a.name.g)) (.string (txt a.name.g)) (.int .i64 a.name.line) v (.bool false)
   obtain ⟨c0,f0,c1,f1,c2,f2,c3,f3,c4,f4,hat,hk⟩:=hR
   have Hat:=hide hat
   have Hk:=hide hk
   obtain ⟨av,cv,hv⟩:=ownE_len own
   subst hv
   have Hown:=hide own
   clear hat hk own
   go_wp2_with fail
   refine bodyPost_ret (v:=.agg #[.string (kindOf a.name.g),.string (txt a.name.g),.int .i64 a.name.line,.slice av a.terms.length cv,.bool false]) (ret_cell (p:=2) (ty:=353) (by kernel_rfl) _ Hat.out Tryz.underlying353 size353 rfl) rfl ⟨⟨_,rfl,?_,hp2.keeps Hk.out (by simp;omega) (by simp;omega)⟩,((kA.trans k1).trans k2).trans_new Hk.out (by simp)⟩
   exact ownE_mono (ownsRow_kept Hown.out Hk.out (fun j hj h=>by have:=(ownE_base Hown.out j hj).1;have e:j=w.heap.size:=(by simpa using h);omega)) (by omega)
end
section
open Go.RowKit
def litCells (l:LitI) (v:Value):List Value:=[.string (kindOf l.atom.name.g),.string (txt l.atom.name.g),.int .i64 l.atom.name.line,v,.bool l.no]
theorem ownE_lt {w:World} {base:Nat} {e:TypeId} {size n:Nat} {v:Value} {xs:List Value} (h:w.ownsRow base e size v n xs):∀ i,v.ownBlock=some i→base≤i∧i<w.heap.size:=fun i hi=>by
 obtain ⟨h1,cs,t,hh⟩:=ownE_base h i hi
 refine ⟨h1,?_⟩
 rcases Nat.lt_or_ge i w.heap.size with h | h
 ·exact h
 ·rw [Array.getElem?_eq_none h] at hh;cases hh
def LitsAre (w:World) (base:Nat) (X:List Nat):List LitI→List Value→Prop
 | [],cs=>cs=[]
 | l :: ls,cs=>∃ v rest,cs=litCells l v++rest∧w.ownsRow base 129 3 v l.atom.terms.length (tokCs l.atom.terms)∧(∀ j,v.ownBlock=some j→j∉X)∧LitsAre w base X ls rest
theorem LitsAre.keeps {w w':World} {base:Nat} {X T:List Nat} {ls:List LitI} {cs:List Value} (h:LitsAre w base X ls cs) (k:Keeps T w w') (hT:∀ j∈T,j∈X∨j<base∨w.heap.size≤j):LitsAre w' base X ls cs:=by
 induction ls generalizing cs with
 | nil=>exact h
 | cons l ls ih=>
  obtain ⟨v,rest,h1,h2,h3,h4⟩:=h
  refine ⟨v,rest,h1,ownsRow_kept h2 k (fun j hj hjT=>?_),h3,ih h4⟩
  have:=ownE_lt h2 j hj
  rcases hT j hjT with h | h | h
  ·exact h3 j hj h
  ·omega
  ·omega
theorem LitsAre.apart {w:World} {base:Nat} {X Y:List Nat} {ls:List LitI} {cs:List Value} (h:LitsAre w base X ls cs) (hY:∀ j∈Y,j∈X∨w.heap.size≤j):LitsAre w base Y ls cs:=by
 induction ls generalizing cs with
 | nil=>exact h
 | cons l ls ih=>
  obtain ⟨v,rest,h1,h2,h3,h4⟩:=h
  refine ⟨v,rest,h1,h2,fun j hj hjY=>?_,ih h4⟩
  have:=ownE_lt h2 j hj
  rcases hY j hjY with h | h
  ·exact h3 j hj h
  ·omega
theorem LitsAre.snoc {w:World} {base:Nat} {X:List Nat} {ls:List LitI} {cs:List Value} (h:LitsAre w base X ls cs) {l:LitI} {v:Value} (h2:w.ownsRow base 129 3 v l.atom.terms.length (tokCs l.atom.terms)) (h3:∀ j,v.ownBlock=some j→j∉X):LitsAre w base X (ls++[l]) (cs++litCells l v):=by
 induction ls generalizing cs with
 | nil=>
  have:cs=[]:=h
  subst this
  exact ⟨v,[],by simp,h2,h3,rfl⟩
 | cons x ls ih=>
  obtain ⟨u,rest,h1,k2,k3,k4⟩:=h
  exact ⟨u,rest++litCells l v,by rw [h1,List.append_assoc],k2,k3,ih k4⟩
theorem LitsAre.mono {w:World} {base base':Nat} {X:List Nat} {ls:List LitI} {cs:List Value} (h:LitsAre w base X ls cs) (hb:base'≤base):LitsAre w base' X ls cs:=by
 induction ls generalizing cs with
 | nil=>exact h
 | cons l ls ih=>
  obtain ⟨v,rest,h1,h2,h3,h4⟩:=h
  exact ⟨v,rest,h1,ownE_mono h2 hb,h3,ih h4⟩
structure CL (w:World) (rb cb b g:Nat) (nm:Tn) (terms:List Tn) (hv:Value) (d:List LitI) (lv:Value) (cs:List Value) (us:List Tn):Prop where
 res:CellsAt w rb #[.string ⟨#[]⟩,.string ⟨#[]⟩,.int .i64 0,.slice none 0 0,.slice none 0 0]
 cl:CellsAt w cb #[.string (kindOf nm.g),.string (txt nm.g),.int .i64 nm.line,hv,lv]
 rc:rb<cb
 low:b<rb∧g<rb
 head:w.ownsRow rb 129 3 hv terms.length (tokCs terms)
 headA:∀ j,hv.ownBlock=some j→j∉[rb,cb]∧lv.ownBlock≠some j
 lits:w.ownsRow rb 353 5 lv d.length cs
 litsA:∀ j,lv.ownBlock=some j→j∉[rb,cb]
 are:LitsAre w rb ([rb,cb]++lv.ownBlock.toList) d cs
 at_:PAt w b g us
theorem CL.go {w w':World} {rb cb b g:Nat} {nm:Tn} {terms:List Tn} {hv:Value} {d:List LitI} {lv:Value} {cs:List Value} {us us':List Tn} (h:CL w rb cb b g nm terms hv d lv cs us) (k:Keeps [b] w w') (hp:PAt w' b g us'):CL w' rb cb b g nm terms hv d lv cs us':=by
 have:=h.low
 have:=h.rc
 refine ⟨h.res.keeps k (by simp;omega),h.cl.keeps k (by simp;omega),h.rc,h.low,ownsRow_kept h.head k (fun j hj hT=>?_),h.headA,ownsRow_kept h.lits k (fun j hj hT=>?_),h.litsA,h.are.keeps k (fun j hj=>?_),hp⟩
 ·have:=(ownE_base h.head j hj).1;have e:j=b:=(by simpa using hT);omega
 ·have:=(ownE_base h.lits j hj).1;have e:j=b:=(by simpa using hT);omega
 ·have e:j=b:=(by simpa using hj);omega
theorem CL.drew {w:World} {rb cb b g:Nat} {nm:Tn} {terms:List Tn} {hv:Value} {d:List LitI} {lv:Value} {cs:List Value} {us:List Tn} (h:CL w rb cb b g nm terms hv d lv cs us):CL w.drew rb cb b g nm terms hv d lv cs us:=h.go (Keeps.drew _ _) (h.at_.keeps (Keeps.drew [] w) (by simp) (by simp))
theorem CL.push {w w2 w3:World} {rb cb b g:Nat} {nm:Tn} {terms:List Tn} {hv:Value} {d:List LitI} {lv:Value} {cs:List Value} {us:List Tn} (h:CL w rb cb b g nm terms hv d lv cs us) {l:LitI} {tv:Value} (hrow:w.ownsRow rb 129 3 tv l.atom.terms.length (tokCs l.atom.terms)) (hrowA:∀ j,tv.ownBlock=some j→j∉[rb,cb]++lv.ownBlock.toList∧j<w.heap.size)
  (k2:Keeps lv.ownBlock.toList w w2) {gg cap:Nat} (hgg:lv.ownBlock=some gg∨w.heap.size≤gg) (own:w2.ownsRow rb 353 5 (.slice (some ⟨gg,0,none⟩) (d.length+1) cap) (d.length+1) (cs++litCells l tv)) (hw3:w3=w2.setCell ⟨cb,4,none⟩ (.slice (some ⟨gg,0,none⟩) (d.length+1) cap)):CL w3 rb cb b g nm terms hv (d++[l]) (.slice (some ⟨gg,0,none⟩) (d.length+1) cap) (cs++litCells l tv) us:=by
 subst hw3
 have hlow:=h.low
 have hrc:=h.rc
 have hcbl:=h.cl.lt
 have hcl2:=h.cl.keeps k2 (fun hT=>h.litsA cb (by simpa using hT) (by simp))
 have hres2:=h.res.keeps k2 (fun hT=>h.litsA rb (by simpa using hT) (by simp))
 have hat2:=h.at_.keeps k2 (fun hT=>by have:=(ownE_base h.lits b (by simpa using hT)).1;omega) (fun hT=>by have:=(ownE_base h.lits g (by simpa using hT)).1;omega)
 have hggA:gg∉[rb,cb]:=by
  rcases hgg with e | e
  ·exact h.litsA gg e
  ·simp;omega
 have ks:=Keeps.setCell w2 ⟨cb,4,none⟩ (.slice (some ⟨gg,0,none⟩) (d.length+1) cap)
 have hh2:=ownsRow_kept h.head k2 (fun j hj hT=>(h.headA j hj).2 (by simpa using hT))
 have hY:∀ j∈[rb,cb]++[gg],j∈[rb,cb]++lv.ownBlock.toList∨w.heap.size≤j:=by
  intro j hj
  rcases List.mem_append.1 hj with hj | hj
  ·exact .inl (List.mem_append_left _ hj)
  ·have e:j=gg:=by simpa using hj
   rcases hgg with e' | e'
   ·left;rw [e,e'];simp
   ·right;omega
 refine ⟨hres2.keeps ks (by simp;omega),hcl2.setCell 4 _,h.rc,h.low,ownsRow_kept hh2 ks (fun j hj hT=>?_),fun j hj=>⟨(h.headA j hj).1,fun e=>?_⟩,?_,fun j hj=>?_,?_,hat2.keeps ks (by simp;omega) (by simp;omega)⟩
 ·have e:j=cb:=(by simpa using hT);exact (h.headA j hj).1 (by simp [e])
 ·have e:gg=j:=(by simpa [Value.ownBlock] using e)
  rcases hgg with e' | e'
  ·exact (h.headA j hj).2 (by rw [e',e])
  ·have:=(ownE_lt h.head j hj).2;omega
 ·rw [List.length_append,List.length_singleton]
  exact ownsRow_kept own ks (fun j hj hT=>by have e:j=cb:=(by simpa using hT);have e2:gg=j:=(by simpa [Value.ownBlock] using hj);exact hggA (by simp [e2,e]))
 ·have e:gg=j:=(by simpa [Value.ownBlock] using hj);rw [←e];exact hggA
 ·have are2:=(h.are.apart (Y:=[rb,cb]++[gg]++lv.ownBlock.toList) (fun j hj=>by
   rcases List.mem_append.1 hj with hj | hj
   ·exact hY j hj
   ·exact .inl (List.mem_append_right _ hj))).keeps k2 (fun j hj=>.inl (List.mem_append_right _ hj))
  have are3:=are2.snoc (l:=l) (v:=tv) (ownsRow_kept hrow k2 (fun j hj hT=>(hrowA j hj).1 (List.mem_append_right _ hT))) (fun j hj hT=>by
   rcases List.mem_append.1 hT with hT | hT
   ·rcases hY j hT with h' | h'
    ·exact (hrowA j hj).1 h'
    ·have:=(hrowA j hj).2;omega
   ·exact (hrowA j hj).1 (List.mem_append_right _ hT))
  have are4:=are3.keeps ks (fun j hj=>.inl (by have e:j=cb:=(by simpa using hj);simp [e]))
  refine are4.apart (fun j hj=>.inl ?_)
  simp [Value.ownBlock] at hj ⊢
  rcases hj with h | h | h <;> simp [h]
end
end Go.Proofs.YtgjomknpjigkhaaGreatDoor
